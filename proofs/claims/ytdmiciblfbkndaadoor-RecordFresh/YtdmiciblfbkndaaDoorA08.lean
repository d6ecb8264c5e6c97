import Derived.Test.YtdmiciblfbkndaaDoorProg
import Derived.WalkKit
import Derived.ProofKit
import Derived.BigCall
import Derived.BigGuard
import Derived.Below
import Derived.ChangeArms
import Derived.Deep.Cut
import Derived.Laws.Strings3
import Derived.Lib.Walk
import Derived.RangeFuncOwn
import Derived.Laws.Cover1
import Derived.RangeFuncRecord
import Derived.Deep.MidRow
import Derived.Lib.QuietBelow
import Derived.BigQuiet
import Derived.Maps.AppendAt
import Derived.WalkMore
import Derived.OrdersHeld
import Derived.Deep.RegionLaw
import Derived.Deep.RegionHeld3
import Derived.Laws.AppendOwn
import Derived.Deep.DeepAppendWide
import Derived.Laws.OwnMore
import Derived.Lib.ConvBytes
import Derived.Lib.AppendStr
import Derived.Laws.IdiomStrings
import Derived.Lib.SmallJoins
import Derived.Laws.MakeOwn
namespace Go.Proofs.YtdmiciblfbkndaaDoor
open Go.RowKit


/-- A value in memory, that may be written. -/
def Box3 (W : World) (B : Nat) (k n : Int) (s : ByteArray) : Prop :=
  ((W.cell? ⟨B, 0, none⟩ = some (.int .i64 k) ∧ W.frozen? ⟨B, 0, none⟩ = false) ∧ (W.cell? ⟨B, 1, none⟩ = some (.int .i64 n) ∧ W.frozen? ⟨B, 1, none⟩ = false)) ∧ (W.cell? ⟨B, 2, none⟩ = some (.string s) ∧ W.frozen? ⟨B, 2, none⟩ = false)
theorem Box3.new (W : World) (k n : Int) (s : ByteArray) (t : TypeId) : Box3 (W.alloc (.cells #[.int .i64 k, .int .i64 n, .string s] t)) W.heap.size k n s := by
  have h := World.alloc_heap_new W (.cells #[.int .i64 k, .int .i64 n, .string s] t)
  refine ⟨⟨⟨?_, ?_⟩, ?_, ?_⟩, ?_, ?_⟩
  all_goals first | (unfold World.cell?; rw [h]; rfl) | (unfold World.frozen?; rw [h]; rfl)
theorem Box3.below {W W' : World} {B D : Nat} {k n : Int} {s : ByteArray} (h : Box3 W B k n s) (hb : Below D W W') (hB : B < D) : Box3 W' B k n s :=
  ⟨⟨⟨(hb.cell (p := ⟨B, 0, none⟩) hB).trans h.1.1.1, (hb.frozen (p := ⟨B, 0, none⟩) hB).trans h.1.1.2⟩, ⟨(hb.cell (p := ⟨B, 1, none⟩) hB).trans h.1.2.1, (hb.frozen (p := ⟨B, 1, none⟩) hB).trans h.1.2.2⟩⟩, (hb.cell (p := ⟨B, 2, none⟩) hB).trans h.2.1, (hb.frozen (p := ⟨B, 2, none⟩) hB).trans h.2.2⟩
theorem cell_alloc_l {W : World} {a : Addr} {v : Value} (o : Obj) (h : W.cell? a = some v) : (W.alloc o).cell? a = some v := cell_kept h (World.grownBy_alloc W o none) (fun r e => by cases e)
theorem frozen_alloc_l {W : World} {a : Addr} {v : Value} (o : Obj) (h : W.cell? a = some v) (hf : W.frozen? a = false) : (W.alloc o).frozen? a = false := (frozen_kept h (World.grownBy_alloc W o none) (fun r e => by cases e)).trans hf
theorem Box3.alloc {W : World} {B : Nat} {k n : Int} {s : ByteArray} (h : Box3 W B k n s) (o : Obj) : Box3 (W.alloc o) B k n s :=
  ⟨⟨⟨cell_alloc_l o h.1.1.1, frozen_alloc_l o h.1.1.1 h.1.1.2⟩, ⟨cell_alloc_l o h.1.2.1, frozen_alloc_l o h.1.2.1 h.1.2.2⟩⟩, cell_alloc_l o h.2.1, frozen_alloc_l o h.2.1 h.2.2⟩
/-- A value stored. -/
def put3 (W : World) (B : Nat) (k n : Int) (s : ByteArray) : World := ((W.setCell ⟨B, 0, none⟩ (.int .i64 k)).setCell ⟨B, 1, none⟩ (.int .i64 n)).setCell ⟨B, 2, none⟩ (.string s)
theorem Box3.put {W : World} {B : Nat} {k n : Int} {s : ByteArray} (h : Box3 W B k n s) (k' n' : Int) (s' : ByteArray) : Box3 (put3 W B k' n' s') B k' n' s' := by
  obtain ⟨⟨⟨h0, f0⟩, ⟨h1, f1⟩⟩, h2, f2⟩ := h
  have e1 : (W.setCell ⟨B, 0, none⟩ (.int .i64 k')).cell? ⟨B, 1, none⟩ = some (.int .i64 n) := by rw [World.cell?_setCell_other _ _ _ _ (by simp)]; exact h1
  have e2 : ((W.setCell ⟨B, 0, none⟩ (.int .i64 k')).setCell ⟨B, 1, none⟩ (.int .i64 n')).cell? ⟨B, 2, none⟩ = some (.string s) := by
    rw [World.cell?_setCell_other _ _ _ _ (by simp), World.cell?_setCell_other _ _ _ _ (by simp)]; exact h2
  unfold put3
  refine ⟨⟨⟨?_, ?_⟩, ?_, ?_⟩, ?_, ?_⟩
  · rw [World.cell?_setCell_other _ _ _ _ (by simp), World.cell?_setCell_other _ _ _ _ (by simp)]
    exact World.cell?_setCell_same' _ _ _ (by rw [h0]; rfl)
  · rw [World.frozen?_setCell, World.frozen?_setCell, World.frozen?_setCell]; exact f0
  · rw [World.cell?_setCell_other _ _ _ _ (by simp)]
    exact World.cell?_setCell_same' _ _ _ (by rw [e1]; rfl)
  · rw [World.frozen?_setCell, World.frozen?_setCell, World.frozen?_setCell]; exact f1
  · exact World.cell?_setCell_same' _ _ _ (by rw [e2]; rfl)
  · rw [World.frozen?_setCell, World.frozen?_setCell, World.frozen?_setCell]; exact f2
theorem below_put3 {W W0 : World} {B D : Nat} (h : Below D W0 W) (hB : D ≤ B) (k n : Int) (s : ByteArray) : Below D W0 (put3 W B k n s) :=
  ((h.setCell (p := ⟨B, 0, none⟩) hB _).setCell (p := ⟨B, 1, none⟩) hB _).setCell (p := ⟨B, 2, none⟩) hB _


/-- Only what lies in F may have turned. -/
structure Kp (F : Nat → Prop) (w w' : World) : Prop where
  os : w'.os = w.os
  tape : w'.tape = w.tape
  output : w'.output = w.output
  size : w.heap.size ≤ w'.heap.size
  block : ∀ k, k < w.heap.size → ¬ F k → w'.heap[k]? = w.heap[k]?

theorem Kp.refl (F : Nat → Prop) (w : World) : Kp F w w := ⟨rfl, rfl, rfl, Nat.le_refl _, fun _ _ _ => rfl⟩
theorem Kp.of {F : Nat → Prop} {w w' : World} (h : Below w.heap.size w w') : Kp F w w' := ⟨h.os, h.tape, h.output, h.size, fun k hk _ => h.block k hk⟩
theorem Kp.trans {F G : Nat → Prop} {a b c : World} (h : Kp F a b) (k : Kp G b c) (hG : ∀ i, i < a.heap.size → G i → F i) : Kp F a c :=
  ⟨k.os.trans h.os, k.tape.trans h.tape, k.output.trans h.output, Nat.le_trans h.size k.size, fun i hi hf => (k.block i (Nat.lt_of_lt_of_le hi h.size) (fun q => hf (hG i hi q))).trans (h.block i hi hf)⟩
theorem Kp.next {F : Nat → Prop} {a b c : World} (h : Kp F a b) (k : Below b.heap.size b c) : Kp F a c := h.trans (Kp.of (F := F) k) (fun _ _ q => q)
theorem Kp.below {F : Nat → Prop} {a b : World} {B : Nat} (h : Kp F a b) (hF : ∀ k, F k → B ≤ k) (hB : B ≤ a.heap.size) : Below B a b := ⟨h.os, h.tape, h.output, h.size, fun k hk => h.block k (by omega) (fun q => by have := hF k q; omega)⟩
theorem Kp.setCell {F : Nat → Prop} {a w : World} (h : Kp F a w) {p : Addr} (hp : F p.block ∨ a.heap.size ≤ p.block) (u : Value) : Kp F a (w.setCell p u) :=
  ⟨h.os, h.tape, h.output, Nat.le_trans h.size (by simp [World.setCell]), fun k hk hf => (Below.heap_setCell _ _ _ _ (by rcases hp with q | q; exact fun e => hf (e ▸ q); omega)).trans (h.block k hk hf)⟩
theorem Kp.setCells {F : Nat → Prop} {a : World} {B : Nat} (hp : F B ∨ a.heap.size ≤ B) : ∀ (vs : List Value) (o : Nat) {w : World}, Kp F a w → Kp F a (w.setCells B o vs)
  | [], _, _, h => h
  | v :: r, o, _, h => Kp.setCells hp r (o + 1) (h.setCell (p := ⟨B, o, none⟩) hp v)
theorem Kp.alloc {F : Nat → Prop} {a w : World} (h : Kp F a w) (o : Obj) : Kp F a (w.alloc o) := h.next ((Below.refl _ _).alloc (Nat.le_refl _) _)
theorem Kp.grown {F : Nat → Prop} {a w w' : World} {row : Option Nat} (h : Kp F a w) (hg : w.grownBy w' row) (hr : ∀ k, row = some k → F k ∨ a.heap.size ≤ k) : Kp F a w' :=
  ⟨hg.os.trans h.os, hg.tape.trans h.tape, hg.output.trans h.output, Nat.le_trans h.size hg.size, fun k hk hf => (hg.block k (Nat.lt_of_lt_of_le hk h.size) (fun e => by rcases hr k e.symm with q | q; exact hf q; omega)).trans (h.block k hk hf)⟩

/-- A block of cells of one kind, that may be written. -/
def Blk (w : World) (g : Nat) (t : TypeId) (n : Nat) : Prop := ∃ cur, w.heap[g]? = some (.cells cur t (0, 0)) ∧ n ≤ cur.size
theorem Blk.lt {w : World} {g : Nat} {t : TypeId} {n : Nat} (h : Blk w g t n) : g < w.heap.size := by obtain ⟨_, h, _⟩ := h; exact (Array.getElem?_eq_some_iff.1 h).1
theorem Blk.same {w w' : World} {g : Nat} {t : TypeId} {n : Nat} (h : Blk w g t n) (e : w'.heap[g]? = w.heap[g]?) : Blk w' g t n := by obtain ⟨c, h, k⟩ := h; exact ⟨c, e.trans h, k⟩
theorem Blk.le {w : World} {g : Nat} {t : TypeId} {n m : Nat} (h : Blk w g t n) (e : m ≤ n) : Blk w g t m := by obtain ⟨c, h, k⟩ := h; exact ⟨c, h, Nat.le_trans e k⟩
theorem Blk.new (w : World) (c : Array Value) (t : TypeId) {n : Nat} (e : n ≤ c.size) : Blk (w.alloc (.cells c t)) w.heap.size t n := ⟨c, World.alloc_heap_new w _, e⟩
theorem Blk.ne {w : World} {g g' : Nat} {t t' : TypeId} {n n' : Nat} (h : Blk w g t n) (k : Blk w g' t' n') (e : t ≠ t') : g ≠ g' := by
  rintro rfl
  obtain ⟨c, h, _⟩ := h
  obtain ⟨c', k, _⟩ := k
  rw [h] at k
  cases k
  exact e rfl
theorem Blk.setCell {w : World} {g : Nat} {t : TypeId} {n : Nat} (h : Blk w g t n) (a : Addr) (v : Value) : Blk (w.setCell a v) g t n := by
  obtain ⟨c, h, k⟩ := h
  unfold Blk World.setCell
  simp only [Array.getElem?_modify]
  split
  · rw [h]
    refine ⟨_, rfl, ?_⟩
    split <;> simpa using k
  · exact ⟨c, h, k⟩
theorem Blk.setCells {g : Nat} {t : TypeId} {n : Nat} (B : Nat) : ∀ (vs : List Value) (o : Nat) {w : World}, Blk w g t n → Blk (w.setCells B o vs) g t n
  | [], _, _, h => h
  | v :: r, o, _, h => Blk.setCells B r (o + 1) (h.setCell ⟨B, o, none⟩ v)
theorem Blk.next {w w' : World} {g : Nat} {t : TypeId} {n : Nat} (h : Blk w g t n) (k : Below w.heap.size w w') : Blk w' g t n := h.same (k.block g h.lt)
theorem Blk.alloc {w : World} {g : Nat} {t : TypeId} {n : Nat} (h : Blk w g t n) (o : Obj) : Blk (w.alloc o) g t n := h.next ((Below.refl _ _).alloc (Nat.le_refl _) _)
theorem Blk.there {w : World} {g : Nat} {t : TypeId} {n : Nat} (h : Blk w g t n) (o m : Nat) (e : o + m ≤ n) : w.there g o m := fun j hj => by
  obtain ⟨c, h, k⟩ := h
  refine ⟨?_, ?_⟩
  · simp only [World.cell?, h]
    simp [show o + j < c.size by omega]
  · simp only [World.frozen?, h]
    simp
theorem Blk.unfrozen {w : World} {g : Nat} {t : TypeId} {n : Nat} (h : Blk w g t n) (o : Nat) : w.frozen? ⟨g, o, none⟩ = false := by
  obtain ⟨c, h, k⟩ := h
  simp only [World.frozen?, h]
  simp

theorem own_same {w w' : World} {B : Nat} {e : TypeId} {sz : Nat} {v : Value} {n : Nat} {xs : List Value} (h : w.ownsRow B e sz v n xs) (hk : ∀ g, v.ownBlock = some g → w'.heap[g]? = w.heap[g]?) : w'.ownsRow B e sz v n xs := by
  refine ⟨h.1, ?_⟩
  rcases h.2 with q | ⟨g, cap, cur, rfl, h1, h2, h3⟩
  · exact .inl q
  · exact .inr ⟨g, cap, cur, rfl, h1, (hk g rfl).trans h2, h3⟩
theorem own_blk {w : World} {B : Nat} {e : TypeId} {sz : Nat} {v : Value} {n : Nat} {xs : List Value} (h : w.ownsRow B e sz v n xs) : ∀ g, v.ownBlock = some g → Blk w g e (n * sz) := fun g hg => by
  rcases h.2 with ⟨rfl, _⟩ | ⟨g, cap, cur, rfl, h1, h2, h3, _, h4, _⟩
  · cases hg
  · cases hg
    exact ⟨cur, h2, by rw [h4]; exact Nat.mul_le_mul_right _ h3⟩
theorem own_ne {w : World} {B : Nat} {e : TypeId} {sz : Nat} {v : Value} {n : Nat} {xs : List Value} (h : w.ownsRow B e sz v n xs) {b : Nat} {t : TypeId} {m : Nat} (k : Blk w b t m) (ht : t ≠ e) : v.ownBlock ≠ some b := fun q => (own_blk h b q).ne k (Ne.symm ht) rfl
theorem own_slice {w : World} {B : Nat} {e : TypeId} {sz : Nat} {v : Value} {n : Nat} {xs : List Value} (h : w.ownsRow B e sz v n xs) : ∃ q cap, v = .slice q n cap ∧ n ≤ cap ∧ (0 < n → ∃ g, q = some ⟨g, 0, none⟩ ∧ w.rangeAt g 0 xs) := by
  rcases h.2 with ⟨rfl, rfl⟩ | ⟨g, cap, cur, rfl, h1, h2, h3, _, h4, h5⟩
  · exact ⟨none, 0, rfl, Nat.le_refl _, fun q => by omega⟩
  · refine ⟨_, cap, rfl, h3, fun _ => ⟨g, rfl, fun j v hv => ?_⟩⟩
    rw [Nat.zero_add]
    simp only [World.cell?, h2]
    rw [← h5, List.getElem?_take] at hv
    split at hv
    · simpa using hv
    · cases hv
theorem own_next {w w' : World} {B : Nat} {e : TypeId} {sz : Nat} {v : Value} {n : Nat} {xs : List Value} (h : w.ownsRow B e sz v n xs) (k : Below w.heap.size w w') : w'.ownsRow B e sz v n xs := own_same h fun g hg => k.block g (own_blk h g hg).lt
theorem range_same {w w' : World} {g o : Nat} {xs : List Value} (h : w.rangeAt g o xs) (e : w'.heap[g]? = w.heap[g]?) : w'.rangeAt g o xs := fun j v hv => (World.cell?_of_block (w := w) (w' := w') (a := ⟨g, o + j, none⟩) e).trans (h j v hv)
theorem set_heap {w : World} {a : Addr} {v : Value} {k : Nat} (h : k ≠ a.block) : (w.setCell a v).heap[k]? = w.heap[k]? := Below.heap_setCell _ _ _ _ h
theorem sets_heap {B k : Nat} (h : k ≠ B) : ∀ (vs : List Value) (o : Nat) (w : World), (w.setCells B o vs).heap[k]? = w.heap[k]?
  | [], _, _ => rfl
  | _ :: r, o, _ => (sets_heap h r (o + 1) _).trans (set_heap (a := ⟨B, o, none⟩) h)
theorem set_size (w : World) (a : Addr) (v : Value) : (w.setCell a v).heap.size = w.heap.size := by simp [World.setCell]
theorem sets_size (B : Nat) : ∀ (vs : List Value) (o : Nat) (w : World), (w.setCells B o vs).heap.size = w.heap.size
  | [], _, _ => rfl
  | _ :: r, o, _ => (sets_size B r (o + 1) _).trans (set_size _ _ _)
/-- Two cells that may be written. -/
def Box2 (W : World) (B : Nat) (a b : Value) : Prop := (W.cell? ⟨B, 0, none⟩ = some a ∧ W.frozen? ⟨B, 0, none⟩ = false) ∧ (W.cell? ⟨B, 1, none⟩ = some b ∧ W.frozen? ⟨B, 1, none⟩ = false)
theorem Box2.new (W : World) (a b : Value) (t : TypeId) : Box2 (W.alloc (.cells #[a, b] t)) W.heap.size a b := by
  have h := World.alloc_heap_new W (.cells #[a, b] t)
  refine ⟨⟨?_, ?_⟩, ?_, ?_⟩
  all_goals first | (unfold World.cell?; rw [h]; rfl) | (unfold World.frozen?; rw [h]; rfl)
theorem Box2.same {W W' : World} {B : Nat} {a b : Value} (h : Box2 W B a b) (e : W'.heap[B]? = W.heap[B]?) : Box2 W' B a b := by
  have c := fun o => World.cell?_of_block (w := W) (w' := W') (a := ⟨B, o, none⟩) e
  have f := fun o => World.frozen?_of_block (w := W) (w' := W') (a := ⟨B, o, none⟩) e
  exact ⟨⟨(c 0).trans h.1.1, (f 0).trans h.1.2⟩, (c 1).trans h.2.1, (f 1).trans h.2.2⟩
theorem Box2.below {W W' : World} {B D : Nat} {a b : Value} (h : Box2 W B a b) (hb : Below D W W') (hB : B < D) : Box2 W' B a b := h.same (hb.block B hB)
theorem Box2.alloc {W : World} {B : Nat} {a b : Value} (h : Box2 W B a b) (o : Obj) (hB : B < W.heap.size) : Box2 (W.alloc o) B a b := h.same (Below.heap_alloc W o B hB)
def put2 (W : World) (B : Nat) (a b : Value) : World := (W.setCell ⟨B, 0, none⟩ a).setCell ⟨B, 1, none⟩ b
theorem Box2.put {W : World} {B : Nat} {a b : Value} (h : Box2 W B a b) (a' b' : Value) : Box2 (put2 W B a' b') B a' b' := by
  obtain ⟨⟨h0, f0⟩, h1, f1⟩ := h
  have e1 : (W.setCell ⟨B, 0, none⟩ a').cell? ⟨B, 1, none⟩ = some b := by rw [World.cell?_setCell_other _ _ _ _ (by simp)]; exact h1
  unfold put2
  refine ⟨⟨?_, ?_⟩, ?_, ?_⟩
  · rw [World.cell?_setCell_other _ _ _ _ (by simp)]
    exact World.cell?_setCell_same' _ _ _ (by rw [h0]; rfl)
  · rw [World.frozen?_setCell, World.frozen?_setCell]; exact f0
  · exact World.cell?_setCell_same' _ _ _ (by rw [e1]; rfl)
  · rw [World.frozen?_setCell, World.frozen?_setCell]; exact f1
theorem below_put2 {W W0 : World} {B D : Nat} (h : Below D W0 W) (hB : D ≤ B) (a b : Value) : Below D W0 (put2 W B a b) := (h.setCell (p := ⟨B, 0, none⟩) hB _).setCell (p := ⟨B, 1, none⟩) hB _

theorem below2 {w w1 w2 : World} (h : Below w.heap.size w w1) (k : Below w1.heap.size w1 w2) : Below w.heap.size w w2 := h.trans (k.mono h.size)

theorem flat_at {α β : Type} (f : α → List β) (sz : Nat) (hf : ∀ a, (f a).length = sz) : ∀ (l : List α) (i j : Nat) (hi : i < l.length), j < sz → (l.flatMap f)[i * sz + j]? = (f l[i])[j]?
  | [], _, _, hi, _ => by simp at hi
  | a :: l, 0, j, _, hj => by
    rw [List.flatMap_cons, Nat.zero_mul, Nat.zero_add, List.getElem?_append_left (by rw [hf]; exact hj)]
    rfl
  | a :: l, i + 1, j, hi, hj => by
    rw [List.flatMap_cons, List.getElem?_append_right (by rw [hf, Nat.succ_mul]; omega), hf, Nat.succ_mul, show i * sz + sz + j - sz = i * sz + j by omega]
    exact flat_at f sz hf l i j (by simpa using hi) hj
theorem sets_app (b : Nat) : ∀ (xs ys : List Value) (o : Nat) (w : World), (w.setCells b o xs).setCells b (o + xs.length) ys = w.setCells b o (xs ++ ys)
  | [], _, _, _ => rfl
  | x :: xs, ys, o, w => by
    show ((w.setCell ⟨b, o, none⟩ x).setCells b (o + 1) xs).setCells b (o + (xs.length + 1)) ys = _
    rw [show o + (xs.length + 1) = o + 1 + xs.length by omega, sets_app b xs ys (o + 1)]
    rfl
theorem wpList_app {P : Program} (t e : TypeId) (z : Value) (size bytes : Nat) (ht : P.underlying t = some (.slice e)) (hinf : (P.info? e).map (fun i => (i.zero, i.size, i.bytes)) = some (some z, size, bytes)) (hzs : z.cells.size = size) (hsz : 0 < size) (hby : bytes ≤ 1000)
    {w : World} {ops : Array Oper} {rest : List Oper} {o : Oper} {a : Act} {Q : Exit → Act → World → Prop} (hgd : o.guard = none) (s x : Operand)
    (ho : o.op = .call { callee := .builtin .append, args := #[s, x], argTypes := #[t, t] })
    (base : Nat) (v : Value) (n : Nat) (xs : List Value) (hs : a.eval s = v) (hown : w.ownsRow base e size v n xs) (C : Array Value) (hC : C.size = size) (h1 : ∀ u ∈ C.toList, u.oneCell' = true) (hx : a.eval x = .slice (some ⟨w.heap.size, 0, none⟩) 1 1)
    (h40 : n + 1 ≤ 100000000) (hbase : base ≤ w.heap.size)
    (h : ∀ v' w', Hid (w'.ownsRow base e size v' (n + 1) (xs ++ C.toList)) → Hid ((w.alloc (.cells C e)).grownBy w' v.ownBlock ∧ (v'.ownBlock = v.ownBlock ∨ v'.ownBlock = some (w.heap.size + 1))) → wpList P ops Q rest (a.put o.dst v') w') : wpList P ops Q (o :: rest) a (w.alloc (.cells C e)) := by
  obtain ⟨i0, hi, hz0, hz1, hz2⟩ := info_parts hinf
  have ho2 := World.ownsRow.alloc hown (.cells C e)
  have hb : (n + 1) * bytes ≤ 140737488355328 := Nat.le_trans (Nat.mul_le_mul h40 hby) (by decide)
  obtain ⟨v', w', hr, h2, h3, _, h4⟩ := run_append_own_at (P := P) (w.alloc (.cells C e)) base t o.type e i0 z size bytes ht hi hz0 hz1 hz2 hzs hsz v n xs ho2 ⟨w.heap.size, 0, none⟩ 1 1 C.toList (by rw [Nat.one_mul]; simpa using hC)
    (fun j u hu => by rw [Addr.add_mid, Nat.zero_add]; simp only [World.cell?, heap_alloc_new w _]; simpa using hu) h1 (by unfold maxLen; omega) hb (by simp; omega)
  rw [World.size_alloc] at h4
  refine wpList_plain hgd fun K hK => ?_
  unfold Oper.wp execOp
  simp only [ho, resolve, invoke, builtin, Sem.run_bind, Sem.run_pure, Result.andThen_ok, List.map_toArray, List.map_cons, List.map_nil, hs, hx, hr]
  exact hK _ _ (h v' w' h2 ⟨h3, h4⟩)

theorem step_app {P : Program} (t e : TypeId) (z : Value) (size bytes : Nat) (ht : P.underlying t = some (.slice e)) (hinf : (P.info? e).map (fun i => (i.zero, i.size, i.bytes)) = some (some z, size, bytes)) (hzs : z.cells.size = size) (hsz : 0 < size) (hby : bytes ≤ 1000)
    {w : World} {ops : Array Oper} {o : Oper} {a : Act} {K : Act → World → Prop} {Q : Exit → Act → World → Prop} {E : Prop} (hgd : o.guard = none) (s x : Operand)
    (ho : o.op = .call { callee := .builtin .append, args := #[s, x], argTypes := #[t, t] })
    (base : Nat) (v : Value) (n : Nat) (xs : List Value) (hs : a.eval s = v) (hown : w.ownsRow base e size v n xs) (g : Nat) (C : List Value) (hC : C.length = size) (h1 : ∀ u ∈ C, u.oneCell' = true) (hx : a.eval x = .slice (some ⟨g, 0, none⟩) 1 1)
    (hr : w.rangeAt g 0 C) (h40 : n + 1 ≤ 100000000) (hbase : base ≤ w.heap.size)
    (h : ∀ v' w', Hid (w'.ownsRow base e size v' (n + 1) (xs ++ C)) → Hid (w.grownBy w' v.ownBlock ∧ (v'.ownBlock = v.ownBlock ∨ v'.ownBlock = some w.heap.size)) → K (a.put o.dst v') w') : if Region.wanted o (yielded ops a.tmps) = true then Oper.wp P o a w K Q else E := by
  have hw : Region.wanted o (yielded ops a.tmps) = true := by simp [Region.wanted, hgd]
  rw [if_pos hw]
  obtain ⟨i0, hi, hz0, hz1, hz2⟩ := info_parts hinf
  have hb : (n + 1) * bytes ≤ 140737488355328 := Nat.le_trans (Nat.mul_le_mul h40 hby) (by decide)
  obtain ⟨v', w', hr, h2, h3, _, h4⟩ := run_append_own_at (P := P) w base t o.type e i0 z size bytes ht hi hz0 hz1 hz2 hzs hsz v n xs hown ⟨g, 0, none⟩ 1 1 C (by rw [Nat.one_mul]; exact hC)
    (fun j u hu => by rw [Addr.add_mid]; exact hr j u hu) h1 (by unfold maxLen; omega) hb hbase
  unfold Oper.wp execOp
  simp only [ho, resolve, invoke, builtin, Sem.run_bind, Sem.run_pure, Result.andThen_ok, List.map_toArray, List.map_cons, List.map_nil, hs, hx, hr]
  exact h v' w' h2 ⟨h3, h4⟩

theorem step_call {P : Program} {w : World} {ops : Array Oper} {o : Oper} {a : Act} {K : Act → World → Prop} {Q : Exit → Act → World → Prop} {E : Prop} (hgd : o.guard = none) (f : FuncId) (xs : List Operand) (ts : Array TypeId) (us : List Value)
    (ho : o.op = .call { callee := .value (.func f), args := xs.toArray, argTypes := ts }) (hx : xs.map a.eval = us) (hcf : ∀ w : World, (callFunc f us.toArray).run P w = .ok (.enter f us.toArray) w)
    (Post : Value → World → Prop) (hc : Calls P f us.toArray w fun e w' => ∃ v, e = .returned v ∧ Post v w') (hK : ∀ v w', Post v w' → K (a.put o.dst v) w') : if Region.wanted o (yielded ops a.tmps) = true then Oper.wp P o a w K Q else E := by
  have hw : Region.wanted o (yielded ops a.tmps) = true := by simp [Region.wanted, hgd]
  rw [if_pos hw]
  have hf : a.eval (.func f) = .func (.func f) #[] #[] := rfl
  have hr : (execOp a.eval o).run P w = .ok (.enter f us.toArray) w := by
    unfold execOp
    simp only [ho, resolve, invoke, Sem.run_bind, List.map_toArray, hx, hf]
    simp [go_sem, hcf]
  unfold Oper.wp
  rw [hr, Oper.upon_enter]
  refine hc.mono ?_
  rintro e w' ⟨v, rfl, hb⟩
  exact hK _ _ hb

theorem own_ge {w : World} {B : Nat} {e : TypeId} {sz : Nat} {v : Value} {n : Nat} {xs : List Value} (h : w.ownsRow B e sz v n xs) : ∀ g, v.ownBlock = some g → B ≤ g := fun g hg => (h.lt g hg).1


section
variable {P : Program} {w : World} {base : Nat} {e : TypeId} {size : Nat}

theorem own_low {w' : World} {B : Nat} {v : Value} {n : Nat} {xs : List Value} (h : w.ownsRow base e size v n xs) (hlt : ∀ g, v.ownBlock = some g → g < B) (hb : Below B w w') : w'.ownsRow base e size v n xs := own_same h fun g hg => hb.block g (hlt g hg)
theorem own_rebase {b c : Nat} {v : Value} {n : Nat} {xs : List Value} (h : w.ownsRow b e size v n xs) (hc : ∀ g, v.ownBlock = some g → c ≤ g) : w.ownsRow c e size v n xs := by
  refine ⟨h.1, ?_⟩
  rcases h.2 with h | ⟨g, cap, cur, rfl, h2, h3⟩
  · exact .inl h
  · exact .inr ⟨g, cap, cur, rfl, hc g rfl, h3⟩
theorem own_down {b c : Nat} {v : Value} {n : Nat} {xs : List Value} (h : w.ownsRow b e size v n xs) (hc : c ≤ b) : w.ownsRow c e size v n xs := own_rebase h fun g hg => Nat.le_trans hc (h.lt g hg).1

/-- One element more: whatever room there is. -/
theorem app_any (t ty : TypeId) (z : Value) (bytes : Nat) (ht : P.underlying t = some (.slice e)) (hinf : (P.info? e).map (fun i => (i.zero, i.size, i.bytes)) = some (some z, size, bytes)) (hzs : z.cells.size = size) (hsz : 0 < size) (hby : bytes ≤ 1000)
    (v : Value) (n : Nat) (xs : List Value) (hown : w.ownsRow base e size v n xs) (g : Nat) (C : List Value) (hC : C.length = size) (h1 : ∀ u ∈ C, u.oneCell' = true) (hr : w.rangeAt g 0 C) (h40 : n + 1 ≤ 100000000) (hbase : base ≤ w.heap.size) :
    ∃ v' w', (Builtin.append_ #[t, t] ty #[v, .slice (some ⟨g, 0, none⟩) 1 1]).run P w = .ok v' w' ∧ w'.ownsRow base e size v' (n + 1) (xs ++ C) ∧ w.grownBy w' v.ownBlock := by
  obtain ⟨i, hi, hz0, hz1, hz2⟩ := info_parts hinf
  have hb : (n + 1) * bytes ≤ 140737488355328 := Nat.le_trans (Nat.mul_le_mul h40 hby) (by decide)
  obtain ⟨v', w', hr, h2, h3, _⟩ := run_append_own (P := P) w base t ty e i z size bytes ht hi hz0 hz1 hz2 hzs hsz v n xs hown ⟨g, 0, none⟩ 1 1 C (by rw [Nat.one_mul]; exact hC)
    (fun j u hu => by rw [Addr.add_mid]; exact hr j u hu) h1 (by unfold maxLen; omega) hb hbase
  exact ⟨v', w', hr, h2, h3⟩

/-- One element more, where there is room. -/
theorem app_in (t ty : TypeId) (z : Value) (bytes : Nat) (ht : P.underlying t = some (.slice e)) (hinf : (P.info? e).map (fun i => (i.zero, i.size, i.bytes)) = some (some z, size, bytes)) (hzs : z.cells.size = size) (hsz : 0 < size) (hby : bytes ≤ 1000)
    (G n cap : Nat) (xs : List Value) (hown : w.ownsRow base e size (.slice (some ⟨G, 0, none⟩) n cap) n xs) (g : Nat) (C : List Value) (hC : C.length = size) (h1 : ∀ u ∈ C, u.oneCell' = true) (hr : w.rangeAt g 0 C) (h40 : n + 1 ≤ 100000000) (hbase : base ≤ w.heap.size) (hroom : n + 1 ≤ cap) :
    ∃ w', (Builtin.append_ #[t, t] ty #[.slice (some ⟨G, 0, none⟩) n cap, .slice (some ⟨g, 0, none⟩) 1 1]).run P w = .ok (.slice (some ⟨G, 0, none⟩) (n + 1) cap) w' ∧ w'.ownsRow base e size (.slice (some ⟨G, 0, none⟩) (n + 1) cap) (n + 1) (xs ++ C) ∧ w.grownBy w' (some G) := by
  obtain ⟨v', w', hr2, h2, h3⟩ := app_any t ty z bytes ht hinf hzs hsz hby _ n xs hown g C hC h1 hr h40 hbase
  obtain ⟨i, hi, hz0, hz1, hz2⟩ := info_parts hinf
  rcases hown.2 with ⟨hv, _⟩ | ⟨g', cap', cur, hv, hbg, hg, hnc, hcm, hcs, htake⟩
  · cases hv
  · simp only [Value.slice.injEq, Option.some.injEq, Addr.mk.injEq] at hv
    obtain ⟨⟨rfl, _⟩, _, rfl⟩ := hv
    have hr3 := run_append_room (P := P) w t ty e i ht hi G n cap cur hg ⟨g, 0, none⟩ 1 1 C (by rw [hz1, Nat.one_mul]; exact hC) (fun j u hu => by rw [Addr.add_mid]; exact hr j u hu) h1 hroom (by rw [hC, hcs, hz1]; have := Nat.mul_le_mul_right size hroom; rw [Nat.succ_mul] at this; exact this)
    rw [hr2] at hr3
    injection hr3 with e1 e2
    subst e1
    exact ⟨w', hr2, h2, h3⟩

/-- One element more, where there is no room: all that was is as it was. -/
theorem app_new (t ty : TypeId) (z : Value) (bytes : Nat) (ht : P.underlying t = some (.slice e)) (hinf : (P.info? e).map (fun i => (i.zero, i.size, i.bytes)) = some (some z, size, bytes)) (hzs : z.cells.size = size) (hsz : 0 < size) (hby : bytes ≤ 1000)
    (q : Option Addr) (n : Nat) (xs : List Value) (hown : w.ownsRow base e size (.slice q n n) n xs) (g : Nat) (C : List Value) (hC : C.length = size) (h1 : ∀ u ∈ C, u.oneCell' = true) (hr : w.rangeAt g 0 C) (h40 : n + 1 ≤ 100000000) (hbase : base ≤ w.heap.size) :
    ∃ v' w', (Builtin.append_ #[t, t] ty #[.slice q n n, .slice (some ⟨g, 0, none⟩) 1 1]).run P w = .ok v' w' ∧ w'.ownsRow w.heap.size e size v' (n + 1) (xs ++ C) ∧ Below w.heap.size w w' := by
  obtain ⟨v', w', hr2, h2, h3⟩ := app_any t ty z bytes ht hinf hzs hsz hby _ n xs hown g C hC h1 hr h40 hbase
  obtain ⟨i, hi, hz0, hz1, hz2⟩ := info_parts hinf
  have hl2 : C.length = 1 * i.size := by rw [hz1, Nat.one_mul]; exact hC
  have hb : (n + 1) * bytes ≤ 140737488355328 := Nat.le_trans (Nat.mul_le_mul h40 hby) (by decide)
  have hnews : ∀ j u, C[j]? = some u → w.cell? ((⟨g, 0, none⟩ : Addr).add j) = some u := fun j u hu => by rw [Addr.add_mid]; exact hr j u hu
  have key : v'.ownBlock = some w.heap.size ∧ Below w.heap.size w w' := by
    rcases hown.2 with ⟨hv, hn⟩ | ⟨G, cap, cur, hv, hbg, hg, hnc, hcm, hcs, htake⟩
    · cases hv
      have hr3 := run_append_nil (P := P) w t ty e i z ht hi hz0 ⟨g, 0, none⟩ 1 1 C hl2 hnews (by omega) (by omega) (by rw [hz2]; omega)
      rw [hr2] at hr3
      injection hr3 with e1 e2
      subst e1 e2
      exact ⟨rfl, ((Below.refl _ w).drew).alloc (Nat.le_refl _) _⟩
    · cases hv
      have holds : ∀ j x, xs[j]? = some x → w.cell? ((⟨G, 0, none⟩ : Addr).add j) = some x := hown.cells (g := G) rfl
      have hr3 := run_append_grow (P := P) w t ty e i z ht hi hz0 ⟨G, 0, none⟩ n n xs (by rw [hz1]; exact hown.1) holds ⟨g, 0, none⟩ 1 1 C hl2 hnews (by omega) (by omega) (by rw [hz2]; exact growslice_fits_wide (by omega) (by have := Nat.mul_le_mul_left ((n + 1) + (n + 1) / 4 + 192) hby; omega))
      rw [hr2] at hr3
      injection hr3 with e1 e2
      subst e1 e2
      exact ⟨rfl, ((Below.refl _ w).drew).alloc (Nat.le_refl _) _⟩
  exact ⟨v', w', hr2, own_rebase h2 (fun g' hg' => by rw [key.1] at hg'; cases hg'; exact Nat.le_refl _), key.2⟩

/-- An append whose run is known, for the walk. -/
theorem wpList_apr {ops : Array Oper} {rest : List Oper} {o : Oper} {a : Act} {Q : Exit → Act → World → Prop} {v' : Value} {w' : World} (hgd : o.guard = none) (s x : Operand) (t : TypeId)
    (ho : o.op = .call { callee := .builtin .append, args := #[s, x], argTypes := #[t, t] }) (hr : (Builtin.append_ #[t, t] o.type #[a.eval s, a.eval x]).run P w = .ok v' w')
    (h : wpList P ops Q rest (a.put o.dst v') w') : wpList P ops Q (o :: rest) a w := by
  refine wpList_plain hgd fun K hK => ?_
  unfold Oper.wp execOp
  simp only [ho, resolve, invoke, builtin, Sem.run_bind, Sem.run_pure, Result.andThen_ok, List.map_toArray, List.map_cons, List.map_nil, hr]
  exact hK _ _ h
end

/-- Cells that lie there, all of them in blocks below B; none where there is no element. -/
def Row (w : World) (B : Nat) (q : Option Addr) (n : Nat) (xs : List Value) : Prop := 0 < n → ∃ g o, q = some ⟨g, o, none⟩ ∧ g < B ∧ w.rangeAt g o xs
theorem Row.below {w w' : World} {B D : Nat} {q : Option Addr} {n : Nat} {xs : List Value} (h : Row w B q n xs) (hb : Below D w w') (hD : B ≤ D) : Row w' B q n xs := fun hn => by
  obtain ⟨g, o, h1, h2, h3⟩ := h hn
  exact ⟨g, o, h1, h2, range_same h3 (hb.block g (by omega))⟩
theorem Row.up {w : World} {B C : Nat} {q : Option Addr} {n : Nat} {xs : List Value} (h : Row w B q n xs) (hC : B ≤ C) : Row w C q n xs := fun hn => by
  obtain ⟨g, o, h1, h2, h3⟩ := h hn
  exact ⟨g, o, h1, by omega, h3⟩
theorem row_of_own {w : World} {B : Nat} {e : TypeId} {sz : Nat} {q : Option Addr} {n m cap : Nat} {xs : List Value} (h : w.ownsRow B e sz (.slice q m cap) n xs) : Row w w.heap.size q n xs := fun hn => by
  obtain ⟨q', cap', hv, _, hr⟩ := own_slice h
  cases hv
  obtain ⟨g, rfl, hg⟩ := hr hn
  exact ⟨g, 0, rfl, (own_blk h g rfl).lt, hg⟩
end Go.Proofs.YtdmiciblfbkndaaDoor

namespace Go.Proofs.YtdmiciblfbkndaaDoor
open Go.RowKit

theorem flat_lenF {α β : Type} (f : α → List β) (sz : Nat) (hf : ∀ a, (f a).length = sz) (l : List α) : (l.flatMap f).length = l.length * sz := by
  induction l with
  | nil => simp
  | cons a l ih => rw [List.flatMap_cons, List.length_append, ih, hf, List.length_cons, Nat.succ_mul, Nat.add_comm]
theorem flat_set {α β : Type} (f : α → List β) (sz : Nat) (hf : ∀ a, (f a).length = sz) (l : List α) (i : Nat) (hi : i < l.length) (x : α) (j : Nat) : ((l.set i x).flatMap f)[j]? = if i * sz ≤ j ∧ j < i * sz + sz then (f x)[j - i * sz]? else (l.flatMap f)[j]? := by
  have hl := flat_lenF f sz hf (l.set i x)
  have hl' := flat_lenF f sz hf l
  rw [List.length_set] at hl
  rcases Nat.eq_zero_or_pos sz with rfl | hs
  · rw [if_neg (by omega), List.getElem?_eq_none (by omega), List.getElem?_eq_none (by omega)]
  by_cases hj : j < l.length * sz
  · have hd : j / sz < l.length := by rw [Nat.div_lt_iff_lt_mul hs]; exact hj
    have hm := Nat.mod_lt j hs
    have he : j / sz * sz + j % sz = j := Nat.div_add_mod' j sz
    have e1 := flat_at f sz hf (l.set i x) (j / sz) (j % sz) (by simpa using hd) hm
    have e2 := flat_at f sz hf l (j / sz) (j % sz) hd hm
    rw [he] at e1 e2
    rw [e1, e2]
    by_cases hi2 : i = j / sz
    · subst hi2
      rw [if_pos ⟨by omega, by omega⟩, List.getElem_set_self, show j - j / sz * sz = j % sz by omega]
    · rw [List.getElem_set_ne hi2, if_neg]
      rintro ⟨q1, q2⟩
      apply hi2
      symm
      rw [Nat.div_eq_iff hs]
      omega
  · have := Nat.mul_le_mul_right sz (show i + 1 ≤ l.length from hi)
    rw [Nat.succ_mul] at this
    rw [if_neg (by omega), List.getElem?_eq_none (by omega), List.getElem?_eq_none (by omega)]
theorem sets_self (g : Nat) {e : TypeId} {fz : Nat × Nat} : ∀ (vs : List Value) (o : Nat) (w : World) (cur : Array Value), w.heap[g]? = some (.cells cur e fz) → ∃ c, (w.setCells g o vs).heap[g]? = some (.cells c e fz) ∧ c.size = cur.size
  | [], _, _, cur, h => ⟨cur, h, rfl⟩
  | v :: r, o, w, cur, h => by
    have h2 : (w.setCell ⟨g, o, none⟩ v).heap[g]? = some (.cells (cur.setIfInBounds o v) e fz) := by
      simp only [World.setCell, Array.getElem?_modify, h]
      simp
    obtain ⟨c, q1, q2⟩ := sets_self g r (o + 1) _ _ h2
    exact ⟨c, q1, by rw [q2]; simp⟩
theorem own_sets {w : World} {B : Nat} {e : TypeId} {sz : Nat} {g n cap : Nat} {xs : List Value} (h : w.ownsRow B e sz (.slice (some ⟨g, 0, none⟩) n cap) n xs) (o : Nat) (vs xs' : List Value) (hl : xs'.length = n * sz) (hx : ∀ j, j < n * sz → (w.setCells g o vs).cell? ⟨g, j, none⟩ = xs'[j]?) :
    (w.setCells g o vs).ownsRow B e sz (.slice (some ⟨g, 0, none⟩) n cap) n xs' := by
  rcases h.2 with ⟨q, _⟩ | ⟨g', cap', cur, hv, h1, h2, h3, h4, h5, h6⟩
  · cases q
  · cases hv
    obtain ⟨c, q1, q2⟩ := sets_self g vs o w cur h2
    refine ⟨hl, .inr ⟨g, cap, c, rfl, h1, q1, h3, h4, q2.trans h5, ?_⟩⟩
    apply List.ext_getElem?
    intro j
    rw [List.getElem?_take]
    split
    · rename_i hj
      have := hx j hj
      simp only [World.cell?, q1] at this
      simpa using this
    · rename_i hj
      rw [List.getElem?_eq_none (by omega)]

/-- One element more: in the room that is there, all else as it was; or in a new block, all as it was. -/
theorem app_two {P : Program} {w : World} {base : Nat} {e : TypeId} {size : Nat} (t ty : TypeId) (z : Value) (bytes : Nat) (ht : P.underlying t = some (.slice e)) (hinf : (P.info? e).map (fun i => (i.zero, i.size, i.bytes)) = some (some z, size, bytes)) (hzs : z.cells.size = size) (hsz : 0 < size) (hby : bytes ≤ 1000)
    (v : Value) (n : Nat) (xs : List Value) (hown : w.ownsRow base e size v n xs) (g : Nat) (C : List Value) (hC : C.length = size) (h1 : ∀ u ∈ C, u.oneCell' = true) (hr : w.rangeAt g 0 C) (h40 : n + 1 ≤ 100000000) (hbase : base ≤ w.heap.size) :
    ∃ v' w', (Builtin.append_ #[t, t] ty #[v, .slice (some ⟨g, 0, none⟩) 1 1]).run P w = .ok v' w' ∧ w'.ownsRow base e size v' (n + 1) (xs ++ C) ∧ ((v'.ownBlock = v.ownBlock ∧ w.grownBy w' v.ownBlock) ∨ ((∀ G, v'.ownBlock = some G → w.heap.size ≤ G) ∧ Below w.heap.size w w')) := by
  obtain ⟨q, cap, rfl, hcap, -⟩ := own_slice hown
  rcases Nat.lt_or_ge n cap with hlt | hge
  · rcases hown.2 with ⟨hv, _⟩ | ⟨G, cap', cur, hv, -⟩
    · cases hv
      omega
    · cases hv
      obtain ⟨w', e1, e2, e3⟩ := app_in t ty z bytes ht hinf hzs hsz hby G n cap xs hown g C hC h1 hr h40 hbase hlt
      exact ⟨_, w', e1, e2, .inl ⟨rfl, e3⟩⟩
  · obtain rfl : cap = n := by omega
    obtain ⟨v', w', e1, e2, e3⟩ := app_new t ty z bytes ht hinf hzs hsz hby q cap xs hown g C hC h1 hr h40 hbase
    exact ⟨v', w', e1, own_down e2 hbase, .inr ⟨fun G hG => (e2.lt G hG).1, e3⟩⟩

/-- A list reads so, whatever lies behind it. -/
def Hold (w : World) (x : Value) (n : Nat) (xs : List Value) : Prop := ∃ q cp, x = .slice q n cp ∧ (0 < n → ∃ g, q = some ⟨g, 0, none⟩ ∧ w.rangeAt g 0 xs)
theorem Hold.of {w : World} {B : Nat} {e : TypeId} {sz : Nat} {v : Value} {n : Nat} {xs : List Value} (h : w.ownsRow B e sz v n xs) : Hold w v n xs := by
  obtain ⟨q, cp, e1, _, h2⟩ := own_slice h
  exact ⟨q, cp, e1, h2⟩
theorem Hold.same {w w' : World} {x : Value} {n : Nat} {xs : List Value} (h : Hold w x n xs) (hk : ∀ g, x.ownBlock = some g → w'.heap[g]? = w.heap[g]?) : Hold w' x n xs := by
  obtain ⟨q, cp, rfl, h2⟩ := h
  refine ⟨q, cp, rfl, fun h0 => ?_⟩
  obtain ⟨g, rfl, hr⟩ := h2 h0
  exact ⟨g, rfl, range_same hr (hk g rfl)⟩

section
variable {T : Type} {c : T → List Value} {k : Nat} {E : TypeId}

/-- An element of a list of its own is written. -/
theorem own_setT (hc : ∀ x, (c x).length = k) {w : World} {B g n cap : Nat} {l : List T} (hl : l.length = n) (h : w.ownsRow B E k (.slice (some ⟨g, 0, none⟩) n cap) n (l.flatMap c)) (N : Nat) (hN : N < n) (x : T) : (w.setCells g (N * k) (c x)).ownsRow B E k (.slice (some ⟨g, 0, none⟩) n cap) n ((l.set N x).flatMap c) := by
  have hbk := own_blk h g rfl
  have hNk := Nat.mul_le_mul_right k (show N + 1 ≤ n from hN)
  rw [Nat.succ_mul] at hNk
  refine own_sets h _ _ _ (by rw [flat_lenF c k hc, List.length_set, hl]) fun i hi => ?_
  have hfs := flat_set c k hc l N (by omega) x i
  rw [hfs]
  split
  · rename_i hu
    obtain ⟨y, hy⟩ : ∃ y, (c x)[i - N * k]? = some y := ⟨_, List.getElem?_eq_getElem (show i - N * k < (c x).length by rw [hc]; omega)⟩
    have := World.rangeAt_setCells_same w g (N * k) (c x) (hbk.there _ _ (by rw [hc]; omega)) (i - N * k) y hy
    rw [show N * k + (i - N * k) = i by omega] at this
    rw [this, hy]
  · rename_i hu
    rw [World.cell?_setCells_out _ _ _ _ _ (fun _ _ => by show i < N * k ∨ N * k + (c x).length ≤ i; rw [hc]; omega)]
    exact h.cellAt (g := g) i hi

end
/-! Blocks whose content is known in full. -/
theorem set_blk {w : World} {g j : Nat} {C : Array Value} {t : TypeId} (h : w.heap[g]? = some (.cells C t)) (v : Value) : (w.setCell ⟨g, j, none⟩ v).heap[g]? = some (.cells (C.set! j v) t) := by
  unfold World.setCell
  simp only [Array.getElem?_modify]
  rw [if_pos trivial, h]
  simp
theorem blk_cell {w : World} {g : Nat} {C : Array Value} {t : TypeId} (h : w.heap[g]? = some (.cells C t)) (j : Nat) (v : Value) (hv : C[j]? = some v) : w.cell? ⟨g, j, none⟩ = some v ∧ w.frozen? ⟨g, j, none⟩ = false := by
  refine ⟨?_, ?_⟩
  · unfold World.cell?; rw [h]; simpa using hv
  · unfold World.frozen?; rw [h]; simp
def Full (W : World) (g : Nat) (t : TypeId) (vs : List Value) : Prop := W.heap[g]? = some (.cells vs.toArray t)
theorem Full.new (W : World) (C : Array Value) (t : TypeId) : Full (W.alloc (.cells C t)) W.heap.size t C.toList := by
  unfold Full
  rw [Array.toArray_toList]
  exact World.alloc_heap_new W _
theorem Full.cell {W : World} {g : Nat} {t : TypeId} {vs : List Value} (h : Full W g t vs) (j : Nat) (v : Value) (hv : vs[j]? = some v) : W.cell? ⟨g, j, none⟩ = some v ∧ W.frozen? ⟨g, j, none⟩ = false := blk_cell h j v (by simpa using hv)
theorem Full.lt {W : World} {g : Nat} {t : TypeId} {vs : List Value} (h : Full W g t vs) : g < W.heap.size := (Array.getElem?_eq_some_iff.1 h).1
theorem Full.next {W W' : World} {g : Nat} {t : TypeId} {vs : List Value} (h : Full W g t vs) (k : Below W.heap.size W W') : Full W' g t vs := (k.block _ h.lt).trans h
theorem Full.low {W W' : World} {g B : Nat} {t : TypeId} {vs : List Value} (h : Full W g t vs) (k : Below B W W') (hg : g < B) : Full W' g t vs := (k.block _ hg).trans h
theorem Full.other {W : World} {g b o : Nat} {t : TypeId} {vs us : List Value} (h : Full W g t vs) (hne : g ≠ b) : Full (W.setCells b o us) g t vs := (sets_heap hne us o W).trans h
theorem Full.other1 {W : World} {g : Nat} {a : Addr} {u : Value} {t : TypeId} {vs : List Value} (h : Full W g t vs) (hne : g ≠ a.block) : Full (W.setCell a u) g t vs := (set_heap hne).trans h
theorem Full.ne {W : World} {g g' : Nat} {t t' : TypeId} {vs vs' : List Value} (h : Full W g t vs) (k : Full W g' t' vs') (e : t ≠ t') : g ≠ g' := by
  rintro rfl
  unfold Full at h k
  rw [h] at k
  simp only [Option.some.injEq, Obj.cells.injEq] at k
  exact e k.2.1
theorem set_mid (a : List Value) (x v : Value) (r : List Value) : (a ++ x :: r).set a.length v = a ++ v :: r := by
  induction a with
  | nil => rfl
  | cons y a ih => simp [ih]
theorem Full.put {g : Nat} {t : TypeId} : ∀ (u : List Value) {W : World} {a b d : List Value}, Full W g t (a ++ (b ++ d)) → u.length = b.length → Full (W.setCells g a.length u) g t (a ++ (u ++ d))
  | [], W, a, b, d, h, e => by
    obtain rfl : b = [] := List.length_eq_zero_iff.1 e.symm
    exact h
  | v :: u, W, a, b, d, h, e => by
    match b, e with
    | x :: b, e =>
      have h1 : Full (W.setCell ⟨g, a.length, none⟩ v) g t ((a ++ [v]) ++ (b ++ d)) := by
        have := set_blk (j := a.length) h v
        unfold Full
        rw [this]
        have e1 : (a ++ (x :: b ++ d)).toArray.set! a.length v = ((a ++ [v]) ++ (b ++ d)).toArray := by
          rw [Array.set!_eq_setIfInBounds, List.setIfInBounds_toArray, List.cons_append, set_mid]
          simp
        rw [e1]
      have h2 := Full.put u h1 (by simpa using e)
      rw [List.length_append, List.length_singleton] at h2
      have e2 : a ++ [v] ++ (u ++ d) = a ++ (v :: u ++ d) := by simp
      rw [e2] at h2
      exact h2
theorem Full.put1 {W : World} {g : Nat} {t : TypeId} {a d : List Value} {x : Value} (h : Full W g t (a ++ (x :: d))) (v : Value) : Full (W.setCell ⟨g, a.length, none⟩ v) g t (a ++ (v :: d)) := Full.put (g := g) (t := t) [v] (b := [x]) (d := d) h rfl
theorem Full.there {W : World} {g : Nat} {t : TypeId} {vs : List Value} (h : Full W g t vs) (o n : Nat) (hn : o + n ≤ vs.length) : W.there g o n := Blk.there (t := t) (n := vs.length) ⟨vs.toArray, h, by simp⟩ o n hn
theorem Full.range {W : World} {g : Nat} {t : TypeId} {a d : List Value} (h : Full W g t (a ++ d)) : W.rangeAt g 0 a := fun j v hv => by
  rw [Nat.zero_add]
  refine (h.cell j v ?_).1
  rw [List.getElem?_append_left (List.getElem?_eq_some_iff.1 hv).1]
  exact hv
theorem below_sets {B b : Nat} {a W : World} (h : Below B a W) (hb : B ≤ b) (o : Nat) (vs : List Value) : Below B a (W.setCells b o vs) := by
  induction vs generalizing W o with
  | nil => exact h
  | cons v vs ih => exact ih (h.setCell (p := ⟨b, o, none⟩) hb v) (o + 1)

theorem Full.four {W : World} {g : Nat} {t : TypeId} {a b c d : Value} (h : Full W g t [a, b, c, d]) : W.cell? ⟨g, 0, none⟩ = some a ∧ W.cell? ⟨g, 1, none⟩ = some b ∧ W.cell? ⟨g, 2, none⟩ = some c ∧ W.cell? ⟨g, 3, none⟩ = some d :=
  ⟨(h.cell 0 _ rfl).1, (h.cell 1 _ rfl).1, (h.cell 2 _ rfl).1, (h.cell 3 _ rfl).1⟩

theorem cells_new (w : World) (C : Array Value) (t : TypeId) (j : Nat) (v : Value) (h : C[j]? = some v) : (w.alloc (.cells C t)).cell? ⟨w.heap.size, j, none⟩ = some v ∧ (w.alloc (.cells C t)).frozen? ⟨w.heap.size, j, none⟩ = false := by
  have e := World.alloc_heap_new w (.cells C t)
  refine ⟨?_, ?_⟩
  · unfold World.cell?; rw [e]; simpa using h
  · unfold World.frozen?; rw [e]; simp
theorem row_get {w : World} {B : Nat} {q : Option Addr} {n : Nat} {xs : List Value} (h : Row w B q n xs) (j : Nat) (hj : j < n) : ∃ g o, q = some ⟨g, o, none⟩ ∧ g < B ∧ ∀ i v, xs[i]? = some v → w.cell? ⟨g, o + i, none⟩ = some v := by
  obtain ⟨g, o, h1, h2, h3⟩ := h (by omega)
  exact ⟨g, o, h1, h2, h3⟩
set_option maxRecDepth 100000 in
set_option maxHeartbeats 4000000 in
/-! A list with a mark behind it: append(append([]T{}, l...), x)[:len(l)], in whatever order. -/
section
variable {P : Program} {e : TypeId} {size : Nat}
/-- What lies elsewhere, appended. -/
theorem app_src (t ty : TypeId) (z : Value) (bytes : Nat) (ht : P.underlying t = some (.slice e)) (hinf : (P.info? e).map (fun i => (i.zero, i.size, i.bytes)) = some (some z, size, bytes)) (hzs : z.cells.size = size) (hsz : 0 < size) (hby : bytes ≤ 1000)
    {w : World} {base G n cap : Nat} {xs : List Value} (hown : w.ownsRow base e size (.slice (some ⟨G, 0, none⟩) n cap) n xs) (q : Option Addr) (m c : Nat) (ys : List Value) (hl : ys.length = m * size) (hq : q = none → m = 0) (hr : 0 < m → ∃ g o, q = some ⟨g, o, none⟩ ∧ w.rangeAt g o ys) (h1 : ∀ u ∈ ys, u.oneCell' = true) (h40 : n + m ≤ 100000000) (hbase : base ≤ w.heap.size) :
    ∃ G' cap' w', (Builtin.append_ #[t, t] ty #[.slice (some ⟨G, 0, none⟩) n cap, .slice q m c]).run P w = .ok (.slice (some ⟨G', 0, none⟩) (n + m) cap') w' ∧ w'.ownsRow base e size (.slice (some ⟨G', 0, none⟩) (n + m) cap') (n + m) (xs ++ ys) ∧ w.grownBy w' (some G) := by
  obtain ⟨i, hi, hz0, hz1, hz2⟩ := info_parts hinf
  have hb : (n + m) * bytes ≤ 140737488355328 := Nat.le_trans (Nat.mul_le_mul h40 hby) (by decide)
  cases q with
  | none =>
    obtain rfl := hq rfl
    obtain rfl : ys = [] := List.length_eq_zero_iff.1 (by rw [hl, Nat.zero_mul])
    refine ⟨G, cap, w, ?_, by rw [List.append_nil]; exact hown, World.grownBy.refl w _⟩
    rcases hown.2 with ⟨q, _⟩ | ⟨g, cap', cur, hv, _, _, hnc, _⟩
    · cases q
    · cases hv
      simp [Builtin.append_, run_underlying ht, sizeOf, typeInfo, hi, Builtin.lenOf, Builtin.firstCells, hnc, storeCells]
  | some a =>
    have hnews : ∀ j u, ys[j]? = some u → w.cell? (a.add j) = some u := fun j u hu => by
      rcases Nat.eq_zero_or_pos m with rfl | hm
      · obtain rfl : ys = [] := List.length_eq_zero_iff.1 (by rw [hl, Nat.zero_mul])
        cases hu
      · obtain ⟨g, o, hq, hg⟩ := hr hm
        cases hq
        rw [Addr.add_mid]
        exact hg j u hu
    obtain ⟨v', w', hr, h2, h3, h4⟩ := run_append_own (P := P) w base t ty e i z size bytes ht hi hz0 hz1 hz2 hzs hsz _ n xs hown a m c ys hl hnews h1 (by unfold maxLen; omega) hb hbase
    rcases h2.2 with ⟨q, -⟩ | ⟨G', cap', cur, rfl, -⟩
    · have := (h4.1 q).1
      cases this
    · exact ⟨G', cap', w', hr, h2, h3⟩
/-- The mark behind it. -/
theorem app_mark (t ty : TypeId) (z : Value) (bytes : Nat) (ht : P.underlying t = some (.slice e)) (hinf : (P.info? e).map (fun i => (i.zero, i.size, i.bytes)) = some (some z, size, bytes)) (hzs : z.cells.size = size) (hsz : 0 < size) (hby : bytes ≤ 1000)
    {w : World} {base G n cap : Nat} {xs : List Value} (hown : w.ownsRow base e size (.slice (some ⟨G, 0, none⟩) n cap) n xs) (g : Nat) (C : List Value) (hC : C.length = size) (h1 : ∀ u ∈ C, u.oneCell' = true) (hr : w.rangeAt g 0 C) (h40 : n + 1 ≤ 100000000) (hbase : base ≤ w.heap.size) :
    ∃ G' cap' w', (Builtin.append_ #[t, t] ty #[.slice (some ⟨G, 0, none⟩) n cap, .slice (some ⟨g, 0, none⟩) 1 1]).run P w = .ok (.slice (some ⟨G', 0, none⟩) (n + 1) cap') w' ∧ w'.ownsRow base e size (.slice (some ⟨G', 0, none⟩) (n + 1) cap') (n + 1) (xs ++ C) ∧ w.grownBy w' (some G) :=
  app_src t ty z bytes ht hinf hzs hsz hby hown (some ⟨g, 0, none⟩) 1 1 C (by rw [hC, Nat.one_mul]) (fun h => by cases h) (fun _ => ⟨g, 0, rfl, hr⟩) h1 h40 hbase
theorem own_empty (X : World) : (X.alloc (.cells #[] e)).ownsRow X.heap.size e size (.slice (some ⟨X.heap.size, 0, none⟩) 0 0) 0 [] :=
  ⟨by simp, .inr ⟨X.heap.size, 0, #[], rfl, Nat.le_refl _, World.alloc_heap_new X _, Nat.le_refl _, Nat.zero_le _, by simp, by simp⟩⟩
/-- What is there behind it. -/
structure Mk (X W : World) (e : TypeId) (size G cap n : Nat) (xs : List Value) : Prop where
  own : W.ownsRow X.heap.size e size (.slice (some ⟨G, 0, none⟩) (n + 1) cap) (n + 1) xs
  b : Below X.heap.size X W
theorem Mk.le {X W : World} {G cap n : Nat} {xs : List Value} (h : Mk X W e size G cap n xs) : n + 1 ≤ cap := by
  rcases h.own.2 with ⟨q, _⟩ | ⟨g, cap', cur, hv, _, _, hnc, _⟩
  · cases q
  · cases hv; exact hnc
theorem dup_a (t : TypeId) (z : Value) (bytes : Nat) (ht : P.underlying t = some (.slice e)) (hinf : (P.info? e).map (fun i => (i.zero, i.size, i.bytes)) = some (some z, size, bytes)) (hzs : z.cells.size = size) (hsz : 0 < size) (hby : bytes ≤ 1000)
    (X : World) (q : Option Addr) (n c B : Nat) (ys : List Value) (hl : ys.length = n * size) (hq : q = none → n = 0) (hr : Row X B q n ys) (hB : B ≤ X.heap.size) (h1 : ∀ u ∈ ys, u.oneCell' = true) (C : Array Value) (hC : C.size = size) (hC1 : ∀ u ∈ C.toList, u.oneCell' = true) (h40 : n + 1 ≤ 100000000) :
    ∃ G1 c1 w1 G2 c2 w2, (Builtin.append_ #[t, t] t #[.slice (some ⟨X.heap.size, 0, none⟩) 0 0, .slice q n c]).run P (X.alloc (.cells #[] e)).drew = .ok (.slice (some ⟨G1, 0, none⟩) n c1) w1 ∧ Below X.heap.size X w1 ∧
      (Builtin.append_ #[t, t] t #[.slice (some ⟨G1, 0, none⟩) n c1, .slice (some ⟨w1.heap.size, 0, none⟩) 1 1]).run P (w1.alloc (.cells C e)) = .ok (.slice (some ⟨G2, 0, none⟩) (n + 1) c2) w2 ∧ Mk X w2 e size G2 c2 n (ys ++ C.toList) := by
  have b0 : Below X.heap.size X (X.alloc (.cells #[] e)).drew := ((Below.refl _ X).alloc (Nat.le_refl _) _).drew
  have o0 : (X.alloc (.cells #[] e)).drew.ownsRow X.heap.size e size (.slice (some ⟨X.heap.size, 0, none⟩) 0 0) 0 [] := own_next (own_empty X) (Below.refl _ _).drew
  obtain ⟨G1, c1, w1, r1, o1, g1⟩ := app_src t t z bytes ht hinf hzs hsz hby o0 q n c ys hl hq (fun hn => by
    obtain ⟨g, o, e1, -, e2⟩ := (hr.below b0 hB) hn
    exact ⟨g, o, e1, e2⟩) h1 (by omega) b0.size
  rw [Nat.zero_add] at r1 o1
  rw [List.nil_append] at o1
  have k1 : Below X.heap.size X w1 := b0.trans ((Below.refl _ _).grown g1 b0.size fun x hx => by cases hx; exact Nat.le_refl _)
  have b1 : Below w1.heap.size w1 (w1.alloc (.cells C e)) := (Below.refl _ w1).alloc (Nat.le_refl _) _
  obtain ⟨G2, c2, w2, r2, o2, g2⟩ := app_mark t t z bytes ht hinf hzs hsz hby (own_next o1 b1) w1.heap.size C.toList (by simpa using hC) hC1 (fun j u hu => by
    rw [Nat.zero_add]
    simp only [World.cell?, World.alloc_heap_new w1]
    simpa using hu) (by omega) (Nat.le_trans k1.size b1.size)
  have k2 : Below X.heap.size X (w1.alloc (.cells C e)) := below2 k1 b1
  exact ⟨G1, c1, w1, G2, c2, w2, r1, k1, r2, o2, k2.trans ((Below.refl _ _).grown g2 k2.size fun x hx => by cases hx; exact (o1.lt _ rfl).1)⟩
theorem dup_b (t : TypeId) (z : Value) (bytes : Nat) (ht : P.underlying t = some (.slice e)) (hinf : (P.info? e).map (fun i => (i.zero, i.size, i.bytes)) = some (some z, size, bytes)) (hzs : z.cells.size = size) (hsz : 0 < size) (hby : bytes ≤ 1000)
    (X Y : World) (E S : Nat) (bY : Below X.heap.size X Y) (hE : Y.heap[E]? = some (.cells #[] e)) (C : Array Value) (hS : Y.heap[S]? = some (.cells C e)) (hE0 : X.heap.size ≤ E) (hES : E ≠ S) (q : Option Addr) (n c B : Nat) (ys : List Value) (hl : ys.length = n * size) (hq : q = none → n = 0) (hr : Row X B q n ys) (hB : B ≤ X.heap.size) (h1 : ∀ u ∈ ys, u.oneCell' = true) (hC : C.size = size) (hC1 : ∀ u ∈ C.toList, u.oneCell' = true) (h40 : n + 1 ≤ 100000000) :
    ∃ G1 c1 w1 G2 c2 w2, (Builtin.append_ #[t, t] t #[.slice (some ⟨E, 0, none⟩) 0 0, .slice q n c]).run P Y = .ok (.slice (some ⟨G1, 0, none⟩) n c1) w1 ∧ Below X.heap.size X w1 ∧
      (Builtin.append_ #[t, t] t #[.slice (some ⟨G1, 0, none⟩) n c1, .slice (some ⟨S, 0, none⟩) 1 1]).run P w1 = .ok (.slice (some ⟨G2, 0, none⟩) (n + 1) c2) w2 ∧ Mk X w2 e size G2 c2 n (ys ++ C.toList) := by
  have o0 : Y.ownsRow X.heap.size e size (.slice (some ⟨E, 0, none⟩) 0 0) 0 [] := ⟨by simp, .inr ⟨E, 0, #[], rfl, hE0, hE, Nat.le_refl _, Nat.zero_le _, by simp, by simp⟩⟩
  obtain ⟨G1, c1, w1, r1, o1, g1⟩ := app_src t t z bytes ht hinf hzs hsz hby o0 q n c ys hl hq (fun hn => by
    obtain ⟨g, o, e1, -, e2⟩ := (hr.below bY hB) hn
    exact ⟨g, o, e1, e2⟩) h1 (by omega) bY.size
  rw [Nat.zero_add] at r1 o1
  rw [List.nil_append] at o1
  have k1 : Below X.heap.size X w1 := bY.trans ((Below.refl _ _).grown g1 bY.size fun x hx => by cases hx; exact hE0)
  have hS1 : w1.heap[S]? = some (.cells C e) := (g1.block S (Array.getElem?_eq_some_iff.1 hS).1 (fun h => hES (by cases h; rfl))).trans hS
  obtain ⟨G2, c2, w2, r2, o2, g2⟩ := app_mark t t z bytes ht hinf hzs hsz hby o1 S C.toList (by simpa using hC) hC1 (fun j u hu => by
    rw [Nat.zero_add]
    simp only [World.cell?, hS1]
    simpa using hu) (by omega) k1.size
  exact ⟨G1, c1, w1, G2, c2, w2, r1, k1, r2, o2, k1.trans ((Below.refl _ _).grown g2 k1.size fun x hx => by cases hx; exact (o1.lt _ rfl).1)⟩
/-- An append whose run is known, at a step of a region that draws. -/
theorem step_apr {ops : Array Oper} {o : Oper} {a : Act} {w : World} {K : Act → World → Prop} {Q : Exit → Act → World → Prop} {E : Prop} {v' : Value} {w' : World} (hgd : o.guard = none) (s x : Operand) (t : TypeId)
    (ho : o.op = .call { callee := .builtin .append, args := #[s, x], argTypes := #[t, t] }) (ht : o.type = t) (vs vx : Value) (hr : (Builtin.append_ #[t, t] t #[vs, vx]).run P w = .ok v' w') (hs : a.eval s = vs) (hx : a.eval x = vx)
    (h : K (a.put o.dst v') w') : if Region.wanted o (yielded ops a.tmps) = true then Oper.wp P o a w K Q else E := by
  have hw : Region.wanted o (yielded ops a.tmps) = true := by simp [Region.wanted, hgd]
  rw [if_pos hw]
  unfold Oper.wp execOp
  simp only [ho, resolve, invoke, builtin, Sem.run_bind, Sem.run_pure, Result.andThen_ok, List.map_toArray, List.map_cons, List.map_nil, hs, hx, ht, hr]
  exact h
end
end Go.Proofs.YtdmiciblfbkndaaDoor
