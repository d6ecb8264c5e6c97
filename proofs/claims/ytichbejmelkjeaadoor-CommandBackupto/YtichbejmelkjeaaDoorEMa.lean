import Derived.Test.YtichbejmelkjeaaDoorProg
import Derived.WalkKit
import Derived.ProofKit
import Derived.BigCall
import Derived.BigGuard
import Derived.Below
import Derived.ChangeArms
import Derived.Deep.Cut
import Derived.Laws.Strings3
import Derived.Lib.Walk
import Derived.RangeFuncOwn
import Derived.Laws.Cover1
import Derived.RangeFuncRecord
import Derived.Deep.MidRow
import Derived.Lib.QuietBelow
import Derived.BigQuiet
import Derived.Maps.AppendAt
import Derived.WalkMore
import Derived.OrdersHeld
import Derived.Deep.RegionLaw
import Derived.Deep.RegionHeld3
import Derived.Laws.AppendOwn
import Derived.Deep.DeepAppendWide
import Derived.Laws.OwnMore
import Derived.Lib.ConvBytes
import Derived.Lib.AppendStr
import Derived.Laws.IdiomStrings
import Derived.Lib.SmallJoins
namespace Go.Proofs.YtichbejmelkjeaaDoor
open Go.RowKit


/-- A value in memory, that may be written. -/
def Box3 (W : World) (B : Nat) (k n : Int) (s : ByteArray) : Prop :=
  ((W.cell? ⟨B, 0, none⟩ = some (.int .i64 k) ∧ W.frozen? ⟨B, 0, none⟩ = false) ∧ (W.cell? ⟨B, 1, none⟩ = some (.int .i64 n) ∧ W.frozen? ⟨B, 1, none⟩ = false)) ∧ (W.cell? ⟨B, 2, none⟩ = some (.string s) ∧ W.frozen? ⟨B, 2, none⟩ = false)
theorem Box3.new (W : World) (k n : Int) (s : ByteArray) (t : TypeId) : Box3 (W.alloc (.cells #[.int .i64 k, .int .i64 n, .string s] t)) W.heap.size k n s := by
  have h := World.alloc_heap_new W (.cells #[.int .i64 k, .int .i64 n, .string s] t)
  refine ⟨⟨⟨?_, ?_⟩, ?_, ?_⟩, ?_, ?_⟩
  all_goals first | (unfold World.cell?; rw [h]; rfl) | (unfold World.frozen?; rw [h]; rfl)
theorem Box3.below {W W' : World} {B D : Nat} {k n : Int} {s : ByteArray} (h : Box3 W B k n s) (hb : Below D W W') (hB : B < D) : Box3 W' B k n s :=
  ⟨⟨⟨(hb.cell (p := ⟨B, 0, none⟩) hB).trans h.1.1.1, (hb.frozen (p := ⟨B, 0, none⟩) hB).trans h.1.1.2⟩, ⟨(hb.cell (p := ⟨B, 1, none⟩) hB).trans h.1.2.1, (hb.frozen (p := ⟨B, 1, none⟩) hB).trans h.1.2.2⟩⟩, (hb.cell (p := ⟨B, 2, none⟩) hB).trans h.2.1, (hb.frozen (p := ⟨B, 2, none⟩) hB).trans h.2.2⟩
theorem cell_alloc_l {W : World} {a : Addr} {v : Value} (o : Obj) (h : W.cell? a = some v) : (W.alloc o).cell? a = some v := cell_kept h (World.grownBy_alloc W o none) (fun r e => by cases e)
theorem frozen_alloc_l {W : World} {a : Addr} {v : Value} (o : Obj) (h : W.cell? a = some v) (hf : W.frozen? a = false) : (W.alloc o).frozen? a = false := (frozen_kept h (World.grownBy_alloc W o none) (fun r e => by cases e)).trans hf
theorem Box3.alloc {W : World} {B : Nat} {k n : Int} {s : ByteArray} (h : Box3 W B k n s) (o : Obj) : Box3 (W.alloc o) B k n s :=
  ⟨⟨⟨cell_alloc_l o h.1.1.1, frozen_alloc_l o h.1.1.1 h.1.1.2⟩, ⟨cell_alloc_l o h.1.2.1, frozen_alloc_l o h.1.2.1 h.1.2.2⟩⟩, cell_alloc_l o h.2.1, frozen_alloc_l o h.2.1 h.2.2⟩
/-- A value stored. -/
def put3 (W : World) (B : Nat) (k n : Int) (s : ByteArray) : World := ((W.setCell ⟨B, 0, none⟩ (.int .i64 k)).setCell ⟨B, 1, none⟩ (.int .i64 n)).setCell ⟨B, 2, none⟩ (.string s)
theorem Box3.put {W : World} {B : Nat} {k n : Int} {s : ByteArray} (h : Box3 W B k n s) (k' n' : Int) (s' : ByteArray) : Box3 (put3 W B k' n' s') B k' n' s' := by
  obtain ⟨⟨⟨h0, f0⟩, ⟨h1, f1⟩⟩, h2, f2⟩ := h
  have e1 : (W.setCell ⟨B, 0, none⟩ (.int .i64 k')).cell? ⟨B, 1, none⟩ = some (.int .i64 n) := by rw [World.cell?_setCell_other _ _ _ _ (by simp)]; exact h1
  have e2 : ((W.setCell ⟨B, 0, none⟩ (.int .i64 k')).setCell ⟨B, 1, none⟩ (.int .i64 n')).cell? ⟨B, 2, none⟩ = some (.string s) := by
    rw [World.cell?_setCell_other _ _ _ _ (by simp), World.cell?_setCell_other _ _ _ _ (by simp)]; exact h2
  unfold put3
  refine ⟨⟨⟨?_, ?_⟩, ?_, ?_⟩, ?_, ?_⟩
  · rw [World.cell?_setCell_other _ _ _ _ (by simp), World.cell?_setCell_other _ _ _ _ (by simp)]
    exact World.cell?_setCell_same' _ _ _ (by rw [h0]; rfl)
  · rw [World.frozen?_setCell, World.frozen?_setCell, World.frozen?_setCell]; exact f0
  · rw [World.cell?_setCell_other _ _ _ _ (by simp)]
    exact World.cell?_setCell_same' _ _ _ (by rw [e1]; rfl)
  · rw [World.frozen?_setCell, World.frozen?_setCell, World.frozen?_setCell]; exact f1
  · exact World.cell?_setCell_same' _ _ _ (by rw [e2]; rfl)
  · rw [World.frozen?_setCell, World.frozen?_setCell, World.frozen?_setCell]; exact f2
theorem below_put3 {W W0 : World} {B D : Nat} (h : Below D W0 W) (hB : D ≤ B) (k n : Int) (s : ByteArray) : Below D W0 (put3 W B k n s) :=
  ((h.setCell (p := ⟨B, 0, none⟩) hB _).setCell (p := ⟨B, 1, none⟩) hB _).setCell (p := ⟨B, 2, none⟩) hB _


/-- Only what lies in F may have turned. -/
structure Kp (F : Nat → Prop) (w w' : World) : Prop where
  os : w'.os = w.os
  tape : w'.tape = w.tape
  output : w'.output = w.output
  size : w.heap.size ≤ w'.heap.size
  block : ∀ k, k < w.heap.size → ¬ F k → w'.heap[k]? = w.heap[k]?

theorem Kp.refl (F : Nat → Prop) (w : World) : Kp F w w := ⟨rfl, rfl, rfl, Nat.le_refl _, fun _ _ _ => rfl⟩
theorem Kp.of {F : Nat → Prop} {w w' : World} (h : Below w.heap.size w w') : Kp F w w' := ⟨h.os, h.tape, h.output, h.size, fun k hk _ => h.block k hk⟩
theorem Kp.trans {F G : Nat → Prop} {a b c : World} (h : Kp F a b) (k : Kp G b c) (hG : ∀ i, i < a.heap.size → G i → F i) : Kp F a c :=
  ⟨k.os.trans h.os, k.tape.trans h.tape, k.output.trans h.output, Nat.le_trans h.size k.size, fun i hi hf => (k.block i (Nat.lt_of_lt_of_le hi h.size) (fun q => hf (hG i hi q))).trans (h.block i hi hf)⟩
theorem Kp.next {F : Nat → Prop} {a b c : World} (h : Kp F a b) (k : Below b.heap.size b c) : Kp F a c := h.trans (Kp.of (F := F) k) (fun _ _ q => q)
theorem Kp.below {F : Nat → Prop} {a b : World} {B : Nat} (h : Kp F a b) (hF : ∀ k, F k → B ≤ k) (hB : B ≤ a.heap.size) : Below B a b := ⟨h.os, h.tape, h.output, h.size, fun k hk => h.block k (by omega) (fun q => by have := hF k q; omega)⟩
theorem Kp.setCell {F : Nat → Prop} {a w : World} (h : Kp F a w) {p : Addr} (hp : F p.block ∨ a.heap.size ≤ p.block) (u : Value) : Kp F a (w.setCell p u) :=
  ⟨h.os, h.tape, h.output, Nat.le_trans h.size (by simp [World.setCell]), fun k hk hf => (Below.heap_setCell _ _ _ _ (by rcases hp with q | q; exact fun e => hf (e ▸ q); omega)).trans (h.block k hk hf)⟩
theorem Kp.setCells {F : Nat → Prop} {a : World} {B : Nat} (hp : F B ∨ a.heap.size ≤ B) : ∀ (vs : List Value) (o : Nat) {w : World}, Kp F a w → Kp F a (w.setCells B o vs)
  | [], _, _, h => h
  | v :: r, o, _, h => Kp.setCells hp r (o + 1) (h.setCell (p := ⟨B, o, none⟩) hp v)
theorem Kp.alloc {F : Nat → Prop} {a w : World} (h : Kp F a w) (o : Obj) : Kp F a (w.alloc o) := h.next ((Below.refl _ _).alloc (Nat.le_refl _) _)
theorem Kp.grown {F : Nat → Prop} {a w w' : World} {row : Option Nat} (h : Kp F a w) (hg : w.grownBy w' row) (hr : ∀ k, row = some k → F k ∨ a.heap.size ≤ k) : Kp F a w' :=
  ⟨hg.os.trans h.os, hg.tape.trans h.tape, hg.output.trans h.output, Nat.le_trans h.size hg.size, fun k hk hf => (hg.block k (Nat.lt_of_lt_of_le hk h.size) (fun e => by rcases hr k e.symm with q | q; exact hf q; omega)).trans (h.block k hk hf)⟩

/-- A block of cells of one kind, that may be written. -/
def Blk (w : World) (g : Nat) (t : TypeId) (n : Nat) : Prop := ∃ cur, w.heap[g]? = some (.cells cur t (0, 0)) ∧ n ≤ cur.size
theorem Blk.lt {w : World} {g : Nat} {t : TypeId} {n : Nat} (h : Blk w g t n) : g < w.heap.size := by obtain ⟨_, h, _⟩ := h; exact (Array.getElem?_eq_some_iff.1 h).1
theorem Blk.same {w w' : World} {g : Nat} {t : TypeId} {n : Nat} (h : Blk w g t n) (e : w'.heap[g]? = w.heap[g]?) : Blk w' g t n := by obtain ⟨c, h, k⟩ := h; exact ⟨c, e.trans h, k⟩
theorem Blk.le {w : World} {g : Nat} {t : TypeId} {n m : Nat} (h : Blk w g t n) (e : m ≤ n) : Blk w g t m := by obtain ⟨c, h, k⟩ := h; exact ⟨c, h, Nat.le_trans e k⟩
theorem Blk.new (w : World) (c : Array Value) (t : TypeId) {n : Nat} (e : n ≤ c.size) : Blk (w.alloc (.cells c t)) w.heap.size t n := ⟨c, World.alloc_heap_new w _, e⟩
theorem Blk.ne {w : World} {g g' : Nat} {t t' : TypeId} {n n' : Nat} (h : Blk w g t n) (k : Blk w g' t' n') (e : t ≠ t') : g ≠ g' := by
  rintro rfl
  obtain ⟨c, h, _⟩ := h
  obtain ⟨c', k, _⟩ := k
  rw [h] at k
  cases k
  exact e rfl
theorem Blk.setCell {w : World} {g : Nat} {t : TypeId} {n : Nat} (h : Blk w g t n) (a : Addr) (v : Value) : Blk (w.setCell a v) g t n := by
  obtain ⟨c, h, k⟩ := h
  unfold Blk World.setCell
  simp only [Array.getElem?_modify]
  split
  · rw [h]
    refine ⟨_, rfl, ?_⟩
    split <;> simpa using k
  · exact ⟨c, h, k⟩
theorem Blk.setCells {g : Nat} {t : TypeId} {n : Nat} (B : Nat) : ∀ (vs : List Value) (o : Nat) {w : World}, Blk w g t n → Blk (w.setCells B o vs) g t n
  | [], _, _, h => h
  | v :: r, o, _, h => Blk.setCells B r (o + 1) (h.setCell ⟨B, o, none⟩ v)
theorem Blk.next {w w' : World} {g : Nat} {t : TypeId} {n : Nat} (h : Blk w g t n) (k : Below w.heap.size w w') : Blk w' g t n := h.same (k.block g h.lt)
theorem Blk.alloc {w : World} {g : Nat} {t : TypeId} {n : Nat} (h : Blk w g t n) (o : Obj) : Blk (w.alloc o) g t n := h.next ((Below.refl _ _).alloc (Nat.le_refl _) _)
theorem Blk.there {w : World} {g : Nat} {t : TypeId} {n : Nat} (h : Blk w g t n) (o m : Nat) (e : o + m ≤ n) : w.there g o m := fun j hj => by
  obtain ⟨c, h, k⟩ := h
  refine ⟨?_, ?_⟩
  · simp only [World.cell?, h]
    simp [show o + j < c.size by omega]
  · simp only [World.frozen?, h]
    simp
theorem Blk.unfrozen {w : World} {g : Nat} {t : TypeId} {n : Nat} (h : Blk w g t n) (o : Nat) : w.frozen? ⟨g, o, none⟩ = false := by
  obtain ⟨c, h, k⟩ := h
  simp only [World.frozen?, h]
  simp

theorem own_same {w w' : World} {B : Nat} {e : TypeId} {sz : Nat} {v : Value} {n : Nat} {xs : List Value} (h : w.ownsRow B e sz v n xs) (hk : ∀ g, v.ownBlock = some g → w'.heap[g]? = w.heap[g]?) : w'.ownsRow B e sz v n xs := by
  refine ⟨h.1, ?_⟩
  rcases h.2 with q | ⟨g, cap, cur, rfl, h1, h2, h3⟩
  · exact .inl q
  · exact .inr ⟨g, cap, cur, rfl, h1, (hk g rfl).trans h2, h3⟩
theorem own_blk {w : World} {B : Nat} {e : TypeId} {sz : Nat} {v : Value} {n : Nat} {xs : List Value} (h : w.ownsRow B e sz v n xs) : ∀ g, v.ownBlock = some g → Blk w g e (n * sz) := fun g hg => by
  rcases h.2 with ⟨rfl, _⟩ | ⟨g, cap, cur, rfl, h1, h2, h3, _, h4, _⟩
  · cases hg
  · cases hg
    exact ⟨cur, h2, by rw [h4]; exact Nat.mul_le_mul_right _ h3⟩
theorem own_ne {w : World} {B : Nat} {e : TypeId} {sz : Nat} {v : Value} {n : Nat} {xs : List Value} (h : w.ownsRow B e sz v n xs) {b : Nat} {t : TypeId} {m : Nat} (k : Blk w b t m) (ht : t ≠ e) : v.ownBlock ≠ some b := fun q => (own_blk h b q).ne k (Ne.symm ht) rfl
theorem own_slice {w : World} {B : Nat} {e : TypeId} {sz : Nat} {v : Value} {n : Nat} {xs : List Value} (h : w.ownsRow B e sz v n xs) : ∃ q cap, v = .slice q n cap ∧ n ≤ cap ∧ (0 < n → ∃ g, q = some ⟨g, 0, none⟩ ∧ w.rangeAt g 0 xs) := by
  rcases h.2 with ⟨rfl, rfl⟩ | ⟨g, cap, cur, rfl, h1, h2, h3, _, h4, h5⟩
  · exact ⟨none, 0, rfl, Nat.le_refl _, fun q => by omega⟩
  · refine ⟨_, cap, rfl, h3, fun _ => ⟨g, rfl, fun j v hv => ?_⟩⟩
    rw [Nat.zero_add]
    simp only [World.cell?, h2]
    rw [← h5, List.getElem?_take] at hv
    split at hv
    · simpa using hv
    · cases hv
theorem own_next {w w' : World} {B : Nat} {e : TypeId} {sz : Nat} {v : Value} {n : Nat} {xs : List Value} (h : w.ownsRow B e sz v n xs) (k : Below w.heap.size w w') : w'.ownsRow B e sz v n xs := own_same h fun g hg => k.block g (own_blk h g hg).lt
theorem range_same {w w' : World} {g o : Nat} {xs : List Value} (h : w.rangeAt g o xs) (e : w'.heap[g]? = w.heap[g]?) : w'.rangeAt g o xs := fun j v hv => (World.cell?_of_block (w := w) (w' := w') (a := ⟨g, o + j, none⟩) e).trans (h j v hv)
theorem set_heap {w : World} {a : Addr} {v : Value} {k : Nat} (h : k ≠ a.block) : (w.setCell a v).heap[k]? = w.heap[k]? := Below.heap_setCell _ _ _ _ h
theorem sets_heap {B k : Nat} (h : k ≠ B) : ∀ (vs : List Value) (o : Nat) (w : World), (w.setCells B o vs).heap[k]? = w.heap[k]?
  | [], _, _ => rfl
  | _ :: r, o, _ => (sets_heap h r (o + 1) _).trans (set_heap (a := ⟨B, o, none⟩) h)
theorem set_size (w : World) (a : Addr) (v : Value) : (w.setCell a v).heap.size = w.heap.size := by simp [World.setCell]
theorem sets_size (B : Nat) : ∀ (vs : List Value) (o : Nat) (w : World), (w.setCells B o vs).heap.size = w.heap.size
  | [], _, _ => rfl
  | _ :: r, o, _ => (sets_size B r (o + 1) _).trans (set_size _ _ _)
/-- Two cells that may be written. -/
def Box2 (W : World) (B : Nat) (a b : Value) : Prop := (W.cell? ⟨B, 0, none⟩ = some a ∧ W.frozen? ⟨B, 0, none⟩ = false) ∧ (W.cell? ⟨B, 1, none⟩ = some b ∧ W.frozen? ⟨B, 1, none⟩ = false)
theorem Box2.new (W : World) (a b : Value) (t : TypeId) : Box2 (W.alloc (.cells #[a, b] t)) W.heap.size a b := by
  have h := World.alloc_heap_new W (.cells #[a, b] t)
  refine ⟨⟨?_, ?_⟩, ?_, ?_⟩
  all_goals first | (unfold World.cell?; rw [h]; rfl) | (unfold World.frozen?; rw [h]; rfl)
theorem Box2.same {W W' : World} {B : Nat} {a b : Value} (h : Box2 W B a b) (e : W'.heap[B]? = W.heap[B]?) : Box2 W' B a b := by
  have c := fun o => World.cell?_of_block (w := W) (w' := W') (a := ⟨B, o, none⟩) e
  have f := fun o => World.frozen?_of_block (w := W) (w' := W') (a := ⟨B, o, none⟩) e
  exact ⟨⟨(c 0).trans h.1.1, (f 0).trans h.1.2⟩, (c 1).trans h.2.1, (f 1).trans h.2.2⟩
theorem Box2.below {W W' : World} {B D : Nat} {a b : Value} (h : Box2 W B a b) (hb : Below D W W') (hB : B < D) : Box2 W' B a b := h.same (hb.block B hB)
theorem Box2.alloc {W : World} {B : Nat} {a b : Value} (h : Box2 W B a b) (o : Obj) (hB : B < W.heap.size) : Box2 (W.alloc o) B a b := h.same (Below.heap_alloc W o B hB)
def put2 (W : World) (B : Nat) (a b : Value) : World := (W.setCell ⟨B, 0, none⟩ a).setCell ⟨B, 1, none⟩ b
theorem Box2.put {W : World} {B : Nat} {a b : Value} (h : Box2 W B a b) (a' b' : Value) : Box2 (put2 W B a' b') B a' b' := by
  obtain ⟨⟨h0, f0⟩, h1, f1⟩ := h
  have e1 : (W.setCell ⟨B, 0, none⟩ a').cell? ⟨B, 1, none⟩ = some b := by rw [World.cell?_setCell_other _ _ _ _ (by simp)]; exact h1
  unfold put2
  refine ⟨⟨?_, ?_⟩, ?_, ?_⟩
  · rw [World.cell?_setCell_other _ _ _ _ (by simp)]
    exact World.cell?_setCell_same' _ _ _ (by rw [h0]; rfl)
  · rw [World.frozen?_setCell, World.frozen?_setCell]; exact f0
  · exact World.cell?_setCell_same' _ _ _ (by rw [e1]; rfl)
  · rw [World.frozen?_setCell, World.frozen?_setCell]; exact f1
theorem below_put2 {W W0 : World} {B D : Nat} (h : Below D W0 W) (hB : D ≤ B) (a b : Value) : Below D W0 (put2 W B a b) := (h.setCell (p := ⟨B, 0, none⟩) hB _).setCell (p := ⟨B, 1, none⟩) hB _

theorem below2 {w w1 w2 : World} (h : Below w.heap.size w w1) (k : Below w1.heap.size w1 w2) : Below w.heap.size w w2 := h.trans (k.mono h.size)

theorem flat_at {α β : Type} (f : α → List β) (sz : Nat) (hf : ∀ a, (f a).length = sz) : ∀ (l : List α) (i j : Nat) (hi : i < l.length), j < sz → (l.flatMap f)[i * sz + j]? = (f l[i])[j]?
  | [], _, _, hi, _ => by simp at hi
  | a :: l, 0, j, _, hj => by
    rw [List.flatMap_cons, Nat.zero_mul, Nat.zero_add, List.getElem?_append_left (by rw [hf]; exact hj)]
    rfl
  | a :: l, i + 1, j, hi, hj => by
    rw [List.flatMap_cons, List.getElem?_append_right (by rw [hf, Nat.succ_mul]; omega), hf, Nat.succ_mul, show i * sz + sz + j - sz = i * sz + j by omega]
    exact flat_at f sz hf l i j (by simpa using hi) hj
theorem sets_app (b : Nat) : ∀ (xs ys : List Value) (o : Nat) (w : World), (w.setCells b o xs).setCells b (o + xs.length) ys = w.setCells b o (xs ++ ys)
  | [], _, _, _ => rfl
  | x :: xs, ys, o, w => by
    show ((w.setCell ⟨b, o, none⟩ x).setCells b (o + 1) xs).setCells b (o + (xs.length + 1)) ys = _
    rw [show o + (xs.length + 1) = o + 1 + xs.length by omega, sets_app b xs ys (o + 1)]
    rfl
theorem wpList_app {P : Program} (t e : TypeId) (z : Value) (size bytes : Nat) (ht : P.underlying t = some (.slice e)) (hinf : (P.info? e).map (fun i => (i.zero, i.size, i.bytes)) = some (some z, size, bytes)) (hzs : z.cells.size = size) (hsz : 0 < size) (hby : bytes ≤ 1000)
    {w : World} {ops : Array Oper} {rest : List Oper} {o : Oper} {a : Act} {Q : Exit → Act → World → Prop} (hgd : o.guard = none) (s x : Operand)
    (ho : o.op = .call { callee := .builtin .append, args := #[s, x], argTypes := #[t, t] })
    (base : Nat) (v : Value) (n : Nat) (xs : List Value) (hs : a.eval s = v) (hown : w.ownsRow base e size v n xs) (C : Array Value) (hC : C.size = size) (h1 : ∀ u ∈ C.toList, u.oneCell' = true) (hx : a.eval x = .slice (some ⟨w.heap.size, 0, none⟩) 1 1)
    (h40 : n + 1 ≤ 100000000) (hbase : base ≤ w.heap.size)
    (h : ∀ v' w', Hid (w'.ownsRow base e size v' (n + 1) (xs ++ C.toList)) → Hid ((w.alloc (.cells C e)).grownBy w' v.ownBlock ∧ (v'.ownBlock = v.ownBlock ∨ v'.ownBlock = some (w.heap.size + 1))) → wpList P ops Q rest (a.put o.dst v') w') : wpList P ops Q (o :: rest) a (w.alloc (.cells C e)) := by
  obtain ⟨i0, hi, hz0, hz1, hz2⟩ := info_parts hinf
  have ho2 := World.ownsRow.alloc hown (.cells C e)
  have hb : (n + 1) * bytes ≤ 140737488355328 := Nat.le_trans (Nat.mul_le_mul h40 hby) (by decide)
  obtain ⟨v', w', hr, h2, h3, _, h4⟩ := run_append_own_at (P := P) (w.alloc (.cells C e)) base t o.type e i0 z size bytes ht hi hz0 hz1 hz2 hzs hsz v n xs ho2 ⟨w.heap.size, 0, none⟩ 1 1 C.toList (by rw [Nat.one_mul]; simpa using hC)
    (fun j u hu => by rw [Addr.add_mid, Nat.zero_add]; simp only [World.cell?, heap_alloc_new w _]; simpa using hu) h1 (by unfold maxLen; omega) hb (by simp; omega)
  rw [World.size_alloc] at h4
  refine wpList_plain hgd fun K hK => ?_
  unfold Oper.wp execOp
  simp only [ho, resolve, invoke, builtin, Sem.run_bind, Sem.run_pure, Result.andThen_ok, List.map_toArray, List.map_cons, List.map_nil, hs, hx, hr]
  exact hK _ _ (h v' w' h2 ⟨h3, h4⟩)

theorem step_app {P : Program} (t e : TypeId) (z : Value) (size bytes : Nat) (ht : P.underlying t = some (.slice e)) (hinf : (P.info? e).map (fun i => (i.zero, i.size, i.bytes)) = some (some z, size, bytes)) (hzs : z.cells.size = size) (hsz : 0 < size) (hby : bytes ≤ 1000)
    {w : World} {ops : Array Oper} {o : Oper} {a : Act} {K : Act → World → Prop} {Q : Exit → Act → World → Prop} {E : Prop} (hgd : o.guard = none) (s x : Operand)
    (ho : o.op = .call { callee := .builtin .append, args := #[s, x], argTypes := #[t, t] })
    (base : Nat) (v : Value) (n : Nat) (xs : List Value) (hs : a.eval s = v) (hown : w.ownsRow base e size v n xs) (g : Nat) (C : List Value) (hC : C.length = size) (h1 : ∀ u ∈ C, u.oneCell' = true) (hx : a.eval x = .slice (some ⟨g, 0, none⟩) 1 1)
    (hr : w.rangeAt g 0 C) (h40 : n + 1 ≤ 100000000) (hbase : base ≤ w.heap.size)
    (h : ∀ v' w', Hid (w'.ownsRow base e size v' (n + 1) (xs ++ C)) → Hid (w.grownBy w' v.ownBlock ∧ (v'.ownBlock = v.ownBlock ∨ v'.ownBlock = some w.heap.size)) → K (a.put o.dst v') w') : if Region.wanted o (yielded ops a.tmps) = true then Oper.wp P o a w K Q else E := by
  have hw : Region.wanted o (yielded ops a.tmps) = true := by simp [Region.wanted, hgd]
  rw [if_pos hw]
  obtain ⟨i0, hi, hz0, hz1, hz2⟩ := info_parts hinf
  have hb : (n + 1) * bytes ≤ 140737488355328 := Nat.le_trans (Nat.mul_le_mul h40 hby) (by decide)
  obtain ⟨v', w', hr, h2, h3, _, h4⟩ := run_append_own_at (P := P) w base t o.type e i0 z size bytes ht hi hz0 hz1 hz2 hzs hsz v n xs hown ⟨g, 0, none⟩ 1 1 C (by rw [Nat.one_mul]; exact hC)
    (fun j u hu => by rw [Addr.add_mid]; exact hr j u hu) h1 (by unfold maxLen; omega) hb hbase
  unfold Oper.wp execOp
  simp only [ho, resolve, invoke, builtin, Sem.run_bind, Sem.run_pure, Result.andThen_ok, List.map_toArray, List.map_cons, List.map_nil, hs, hx, hr]
  exact h v' w' h2 ⟨h3, h4⟩

theorem step_call {P : Program} {w : World} {ops : Array Oper} {o : Oper} {a : Act} {K : Act → World → Prop} {Q : Exit → Act → World → Prop} {E : Prop} (hgd : o.guard = none) (f : FuncId) (xs : List Operand) (ts : Array TypeId) (us : List Value)
    (ho : o.op = .call { callee := .value (.func f), args := xs.toArray, argTypes := ts }) (hx : xs.map a.eval = us) (hcf : ∀ w : World, (callFunc f us.toArray).run P w = .ok (.enter f us.toArray) w)
    (Post : Value → World → Prop) (hc : Calls P f us.toArray w fun e w' => ∃ v, e = .returned v ∧ Post v w') (hK : ∀ v w', Post v w' → K (a.put o.dst v) w') : if Region.wanted o (yielded ops a.tmps) = true then Oper.wp P o a w K Q else E := by
  have hw : Region.wanted o (yielded ops a.tmps) = true := by simp [Region.wanted, hgd]
  rw [if_pos hw]
  have hf : a.eval (.func f) = .func (.func f) #[] #[] := rfl
  have hr : (execOp a.eval o).run P w = .ok (.enter f us.toArray) w := by
    unfold execOp
    simp only [ho, resolve, invoke, Sem.run_bind, List.map_toArray, hx, hf]
    simp [go_sem, hcf]
  unfold Oper.wp
  rw [hr, Oper.upon_enter]
  refine hc.mono ?_
  rintro e w' ⟨v, rfl, hb⟩
  exact hK _ _ hb

theorem own_ge {w : World} {B : Nat} {e : TypeId} {sz : Nat} {v : Value} {n : Nat} {xs : List Value} (h : w.ownsRow B e sz v n xs) : ∀ g, v.ownBlock = some g → B ≤ g := fun g hg => (h.lt g hg).1


section
variable {P : Program} {w : World} {base : Nat} {e : TypeId} {size : Nat}

theorem own_low {w' : World} {B : Nat} {v : Value} {n : Nat} {xs : List Value} (h : w.ownsRow base e size v n xs) (hlt : ∀ g, v.ownBlock = some g → g < B) (hb : Below B w w') : w'.ownsRow base e size v n xs := own_same h fun g hg => hb.block g (hlt g hg)
theorem own_rebase {b c : Nat} {v : Value} {n : Nat} {xs : List Value} (h : w.ownsRow b e size v n xs) (hc : ∀ g, v.ownBlock = some g → c ≤ g) : w.ownsRow c e size v n xs := by
  refine ⟨h.1, ?_⟩
  rcases h.2 with h | ⟨g, cap, cur, rfl, h2, h3⟩
  · exact .inl h
  · exact .inr ⟨g, cap, cur, rfl, hc g rfl, h3⟩
theorem own_down {b c : Nat} {v : Value} {n : Nat} {xs : List Value} (h : w.ownsRow b e size v n xs) (hc : c ≤ b) : w.ownsRow c e size v n xs := own_rebase h fun g hg => Nat.le_trans hc (h.lt g hg).1

/-- One element more: whatever room there is. -/
theorem app_any (t ty : TypeId) (z : Value) (bytes : Nat) (ht : P.underlying t = some (.slice e)) (hinf : (P.info? e).map (fun i => (i.zero, i.size, i.bytes)) = some (some z, size, bytes)) (hzs : z.cells.size = size) (hsz : 0 < size) (hby : bytes ≤ 1000)
    (v : Value) (n : Nat) (xs : List Value) (hown : w.ownsRow base e size v n xs) (g : Nat) (C : List Value) (hC : C.length = size) (h1 : ∀ u ∈ C, u.oneCell' = true) (hr : w.rangeAt g 0 C) (h40 : n + 1 ≤ 100000000) (hbase : base ≤ w.heap.size) :
    ∃ v' w', (Builtin.append_ #[t, t] ty #[v, .slice (some ⟨g, 0, none⟩) 1 1]).run P w = .ok v' w' ∧ w'.ownsRow base e size v' (n + 1) (xs ++ C) ∧ w.grownBy w' v.ownBlock := by
  obtain ⟨i, hi, hz0, hz1, hz2⟩ := info_parts hinf
  have hb : (n + 1) * bytes ≤ 140737488355328 := Nat.le_trans (Nat.mul_le_mul h40 hby) (by decide)
  obtain ⟨v', w', hr, h2, h3, _⟩ := run_append_own (P := P) w base t ty e i z size bytes ht hi hz0 hz1 hz2 hzs hsz v n xs hown ⟨g, 0, none⟩ 1 1 C (by rw [Nat.one_mul]; exact hC)
    (fun j u hu => by rw [Addr.add_mid]; exact hr j u hu) h1 (by unfold maxLen; omega) hb hbase
  exact ⟨v', w', hr, h2, h3⟩

/-- One element more, where there is room. -/
theorem app_in (t ty : TypeId) (z : Value) (bytes : Nat) (ht : P.underlying t = some (.slice e)) (hinf : (P.info? e).map (fun i => (i.zero, i.size, i.bytes)) = some (some z, size, bytes)) (hzs : z.cells.size = size) (hsz : 0 < size) (hby : bytes ≤ 1000)
    (G n cap : Nat) (xs : List Value) (hown : w.ownsRow base e size (.slice (some ⟨G, 0, none⟩) n cap) n xs) (g : Nat) (C : List Value) (hC : C.length = size) (h1 : ∀ u ∈ C, u.oneCell' = true) (hr : w.rangeAt g 0 C) (h40 : n + 1 ≤ 100000000) (hbase : base ≤ w.heap.size) (hroom : n + 1 ≤ cap) :
    ∃ w', (Builtin.append_ #[t, t] ty #[.slice (some ⟨G, 0, none⟩) n cap, .slice (some ⟨g, 0, none⟩) 1 1]).run P w = .ok (.slice (some ⟨G, 0, none⟩) (n + 1) cap) w' ∧ w'.ownsRow base e size (.slice (some ⟨G, 0, none⟩) (n + 1) cap) (n + 1) (xs ++ C) ∧ w.grownBy w' (some G) := by
  obtain ⟨v', w', hr2, h2, h3⟩ := app_any t ty z bytes ht hinf hzs hsz hby _ n xs hown g C hC h1 hr h40 hbase
  obtain ⟨i, hi, hz0, hz1, hz2⟩ := info_parts hinf
  rcases hown.2 with ⟨hv, _⟩ | ⟨g', cap', cur, hv, hbg, hg, hnc, hcm, hcs, htake⟩
  · cases hv
  · simp only [Value.slice.injEq, Option.some.injEq, Addr.mk.injEq] at hv
    obtain ⟨⟨rfl, _⟩, _, rfl⟩ := hv
    have hr3 := run_append_room (P := P) w t ty e i ht hi G n cap cur hg ⟨g, 0, none⟩ 1 1 C (by rw [hz1, Nat.one_mul]; exact hC) (fun j u hu => by rw [Addr.add_mid]; exact hr j u hu) h1 hroom (by rw [hC, hcs, hz1]; have := Nat.mul_le_mul_right size hroom; rw [Nat.succ_mul] at this; exact this)
    rw [hr2] at hr3
    injection hr3 with e1 e2
    subst e1
    exact ⟨w', hr2, h2, h3⟩

/-- One element more, where there is no room: all that was is as it was. -/
theorem app_new (t ty : TypeId) (z : Value) (bytes : Nat) (ht : P.underlying t = some (.slice e)) (hinf : (P.info? e).map (fun i => (i.zero, i.size, i.bytes)) = some (some z, size, bytes)) (hzs : z.cells.size = size) (hsz : 0 < size) (hby : bytes ≤ 1000)
    (q : Option Addr) (n : Nat) (xs : List Value) (hown : w.ownsRow base e size (.slice q n n) n xs) (g : Nat) (C : List Value) (hC : C.length = size) (h1 : ∀ u ∈ C, u.oneCell' = true) (hr : w.rangeAt g 0 C) (h40 : n + 1 ≤ 100000000) (hbase : base ≤ w.heap.size) :
    ∃ v' w', (Builtin.append_ #[t, t] ty #[.slice q n n, .slice (some ⟨g, 0, none⟩) 1 1]).run P w = .ok v' w' ∧ w'.ownsRow w.heap.size e size v' (n + 1) (xs ++ C) ∧ Below w.heap.size w w' := by
  obtain ⟨v', w', hr2, h2, h3⟩ := app_any t ty z bytes ht hinf hzs hsz hby _ n xs hown g C hC h1 hr h40 hbase
  obtain ⟨i, hi, hz0, hz1, hz2⟩ := info_parts hinf
  have hl2 : C.length = 1 * i.size := by rw [hz1, Nat.one_mul]; exact hC
  have hb : (n + 1) * bytes ≤ 140737488355328 := Nat.le_trans (Nat.mul_le_mul h40 hby) (by decide)
  have hnews : ∀ j u, C[j]? = some u → w.cell? ((⟨g, 0, none⟩ : Addr).add j) = some u := fun j u hu => by rw [Addr.add_mid]; exact hr j u hu
  have key : v'.ownBlock = some w.heap.size ∧ Below w.heap.size w w' := by
    rcases hown.2 with ⟨hv, hn⟩ | ⟨G, cap, cur, hv, hbg, hg, hnc, hcm, hcs, htake⟩
    · cases hv
      have hr3 := run_append_nil (P := P) w t ty e i z ht hi hz0 ⟨g, 0, none⟩ 1 1 C hl2 hnews (by omega) (by omega) (by rw [hz2]; omega)
      rw [hr2] at hr3
      injection hr3 with e1 e2
      subst e1 e2
      exact ⟨rfl, ((Below.refl _ w).drew).alloc (Nat.le_refl _) _⟩
    · cases hv
      have holds : ∀ j x, xs[j]? = some x → w.cell? ((⟨G, 0, none⟩ : Addr).add j) = some x := hown.cells (g := G) rfl
      have hr3 := run_append_grow (P := P) w t ty e i z ht hi hz0 ⟨G, 0, none⟩ n n xs (by rw [hz1]; exact hown.1) holds ⟨g, 0, none⟩ 1 1 C hl2 hnews (by omega) (by omega) (by rw [hz2]; exact growslice_fits_wide (by omega) (by have := Nat.mul_le_mul_left ((n + 1) + (n + 1) / 4 + 192) hby; omega))
      rw [hr2] at hr3
      injection hr3 with e1 e2
      subst e1 e2
      exact ⟨rfl, ((Below.refl _ w).drew).alloc (Nat.le_refl _) _⟩
  exact ⟨v', w', hr2, own_rebase h2 (fun g' hg' => by rw [key.1] at hg'; cases hg'; exact Nat.le_refl _), key.2⟩

/-- An append whose run is known, for the walk. -/
theorem wpList_apr {ops : Array Oper} {rest : List Oper} {o : Oper} {a : Act} {Q : Exit → Act → World → Prop} {v' : Value} {w' : World} (hgd : o.guard = none) (s x : Operand) (t : TypeId)
    (ho : o.op = .call { callee := .builtin .append, args := #[s, x], argTypes := #[t, t] }) (hr : (Builtin.append_ #[t, t] o.type #[a.eval s, a.eval x]).run P w = .ok v' w')
    (h : wpList P ops Q rest (a.put o.dst v') w') : wpList P ops Q (o :: rest) a w := by
  refine wpList_plain hgd fun K hK => ?_
  unfold Oper.wp execOp
  simp only [ho, resolve, invoke, builtin, Sem.run_bind, Sem.run_pure, Result.andThen_ok, List.map_toArray, List.map_cons, List.map_nil, hr]
  exact hK _ _ h
end

/-- Cells that lie there, all of them in blocks below B; none where there is no element. -/
def Row (w : World) (B : Nat) (q : Option Addr) (n : Nat) (xs : List Value) : Prop := 0 < n → ∃ g o, q = some ⟨g, o, none⟩ ∧ g < B ∧ w.rangeAt g o xs
theorem Row.below {w w' : World} {B D : Nat} {q : Option Addr} {n : Nat} {xs : List Value} (h : Row w B q n xs) (hb : Below D w w') (hD : B ≤ D) : Row w' B q n xs := fun hn => by
  obtain ⟨g, o, h1, h2, h3⟩ := h hn
  exact ⟨g, o, h1, h2, range_same h3 (hb.block g (by omega))⟩
theorem Row.up {w : World} {B C : Nat} {q : Option Addr} {n : Nat} {xs : List Value} (h : Row w B q n xs) (hC : B ≤ C) : Row w C q n xs := fun hn => by
  obtain ⟨g, o, h1, h2, h3⟩ := h hn
  exact ⟨g, o, h1, by omega, h3⟩
theorem row_of_own {w : World} {B : Nat} {e : TypeId} {sz : Nat} {q : Option Addr} {n m cap : Nat} {xs : List Value} (h : w.ownsRow B e sz (.slice q m cap) n xs) : Row w w.heap.size q n xs := fun hn => by
  obtain ⟨q', cap', hv, _, hr⟩ := own_slice h
  cases hv
  obtain ⟨g, rfl, hg⟩ := hr hn
  exact ⟨g, 0, rfl, (own_blk h g rfl).lt, hg⟩
end Go.Proofs.YtichbejmelkjeaaDoor
