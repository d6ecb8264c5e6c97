import Derived.Test.YtahdkffijlfmnaaGreatDoorProg
import Derived.WalkKit
import Derived.ProofKit
import Derived.BigCall
import Derived.BigGuard
import Derived.Below
import Derived.ChangeArms
import Derived.Deep.Cut
import Derived.Laws.Strings3
import Derived.Lib.Walk
import Derived.RangeFuncOwn
import Derived.Laws.Cover1
import Derived.RangeFuncRecord
import Derived.Deep.MidRow
import Derived.Lib.QuietBelow
import Derived.BigQuiet
import Derived.Maps.AppendAt
import Derived.WalkMore
import Derived.OrdersHeld
import Derived.Deep.RegionLaw
import Derived.Deep.RegionHeld3
import Derived.Laws.AppendOwn
import Derived.Deep.DeepAppendWide
import Derived.Laws.OwnMore
import Derived.Lib.ConvBytes
import Derived.Lib.AppendStr
import Derived.Laws.IdiomStrings
import Derived.Lib.SmallJoins
import Derived.Test.YtahdkffijlfmnaaGreatDoorT01
import Derived.Test.YtahdkffijlfmnaaGreatDoorT02
namespace Go.Proofs.YtahdkffijlfmnaaGreatDoor
open Go.RowKit
def Box3 (W : World) (B : Nat) (k n : Int) (s : ByteArray) : Prop :=
  ((W.cell? ⟨B, 0, none⟩ = some (.int .i64 k) ∧ W.frozen? ⟨B, 0, none⟩ = false) ∧ (W.cell? ⟨B, 1, none⟩ = some (.int .i64 n) ∧ W.frozen? ⟨B, 1, none⟩ = false)) ∧ (W.cell? ⟨B, 2, none⟩ = some (.string s) ∧ W.frozen? ⟨B, 2, none⟩ = false)
theorem Box3.new (W : World) (k n : Int) (s : ByteArray) (t : TypeId) : Box3 (W.alloc (.cells #[.int .i64 k, .int .i64 n, .string s] t)) W.heap.size k n s := by
  have h := World.alloc_heap_new W (.cells #[.int .i64 k, .int .i64 n, .string s] t)
  refine ⟨⟨⟨?_, ?_⟩, ?_, ?_⟩, ?_, ?_⟩
  all_goals first | (unfold World.cell?; rw [h]; rfl) | (unfold World.frozen?; rw [h]; rfl)
theorem Box3.below {W W' : World} {B D : Nat} {k n : Int} {s : ByteArray} (h : Box3 W B k n s) (hb : Below D W W') (hB : B < D) : Box3 W' B k n s :=
  ⟨⟨⟨(hb.cell (p := ⟨B, 0, none⟩) hB).trans h.1.1.1, (hb.frozen (p := ⟨B, 0, none⟩) hB).trans h.1.1.2⟩, ⟨(hb.cell (p := ⟨B, 1, none⟩) hB).trans h.1.2.1, (hb.frozen (p := ⟨B, 1, none⟩) hB).trans h.1.2.2⟩⟩, (hb.cell (p := ⟨B, 2, none⟩) hB).trans h.2.1, (hb.frozen (p := ⟨B, 2, none⟩) hB).trans h.2.2⟩
theorem cell_alloc_l {W : World} {a : Addr} {v : Value} (o : Obj) (h : W.cell? a = some v) : (W.alloc o).cell? a = some v := cell_kept h (World.grownBy_alloc W o none) (fun r e => by cases e)
theorem frozen_alloc_l {W : World} {a : Addr} {v : Value} (o : Obj) (h : W.cell? a = some v) (hf : W.frozen? a = false) : (W.alloc o).frozen? a = false := (frozen_kept h (World.grownBy_alloc W o none) (fun r e => by cases e)).trans hf
theorem Box3.alloc {W : World} {B : Nat} {k n : Int} {s : ByteArray} (h : Box3 W B k n s) (o : Obj) : Box3 (W.alloc o) B k n s :=
  ⟨⟨⟨cell_alloc_l o h.1.1.1, frozen_alloc_l o h.1.1.1 h.1.1.2⟩, ⟨cell_alloc_l o h.1.2.1, frozen_alloc_l o h.1.2.1 h.1.2.2⟩⟩, cell_alloc_l o h.2.1, frozen_alloc_l o h.2.1 h.2.2⟩
def put3 (W : World) (B : Nat) (k n : Int) (s : ByteArray) : World := ((W.setCell ⟨B, 0, none⟩ (.int .i64 k)).setCell ⟨B, 1, none⟩ (.int .i64 n)).setCell ⟨B, 2, none⟩ (.string s)
theorem Box3.put {W : World} {B : Nat} {k n : Int} {s : ByteArray} (h : Box3 W B k n s) (k' n' : Int) (s' : ByteArray) : Box3 (put3 W B k' n' s') B k' n' s' := by
  obtain ⟨⟨⟨h0, f0⟩, ⟨h1, f1⟩⟩, h2, f2⟩ := h
  have e1 : (W.setCell ⟨B, 0, none⟩ (.int .i64 k')).cell? ⟨B, 1, none⟩ = some (.int .i64 n) := by rw [World.cell?_setCell_other _ _ _ _ (by simp)]; exact h1
  have e2 : ((W.setCell ⟨B, 0, none⟩ (.int .i64 k')).setCell ⟨B, 1, none⟩ (.int .i64 n')).cell? ⟨B, 2, none⟩ = some (.string s) := by
    rw [World.cell?_setCell_other _ _ _ _ (by simp), World.cell?_setCell_other _ _ _ _ (by simp)]; exact h2
  unfold put3
  refine ⟨⟨⟨?_, ?_⟩, ?_, ?_⟩, ?_, ?_⟩
  · rw [World.cell?_setCell_other _ _ _ _ (by simp), World.cell?_setCell_other _ _ _ _ (by simp)]
    exact World.cell?_setCell_same' _ _ _ (by rw [h0]; rfl)
  · rw [World.frozen?_setCell, World.frozen?_setCell, World.frozen?_setCell]; exact f0
  · rw [World.cell?_setCell_other _ _ _ _ (by simp)]
    exact World.cell?_setCell_same' _ _ _ (by rw [e1]; rfl)
  · rw [World.frozen?_setCell, World.frozen?_setCell, World.frozen?_setCell]; exact f1
  · exact World.cell?_setCell_same' _ _ _ (by rw [e2]; rfl)
  · rw [World.frozen?_setCell, World.frozen?_setCell, World.frozen?_setCell]; exact f2
theorem below_put3 {W W0 : World} {B D : Nat} (h : Below D W0 W) (hB : D ≤ B) (k n : Int) (s : ByteArray) : Below D W0 (put3 W B k n s) :=
  ((h.setCell (p := ⟨B, 0, none⟩) hB _).setCell (p := ⟨B, 1, none⟩) hB _).setCell (p := ⟨B, 2, none⟩) hB _
structure Kp (F : Nat → Prop) (w w' : World) : Prop where
  os : w'.os = w.os
  tape : w'.tape = w.tape
  output : w'.output = w.output
  size : w.heap.size ≤ w'.heap.size
  block : ∀ k, k < w.heap.size → ¬ F k → w'.heap[k]? = w.heap[k]?
theorem Kp.refl (F : Nat → Prop) (w : World) : Kp F w w := ⟨rfl, rfl, rfl, Nat.le_refl _, fun _ _ _ => rfl⟩
theorem Kp.of {F : Nat → Prop} {w w' : World} (h : Below w.heap.size w w') : Kp F w w' := ⟨h.os, h.tape, h.output, h.size, fun k hk _ => h.block k hk⟩
theorem Kp.trans {F G : Nat → Prop} {a b c : World} (h : Kp F a b) (k : Kp G b c) (hG : ∀ i, i < a.heap.size → G i → F i) : Kp F a c :=
  ⟨k.os.trans h.os, k.tape.trans h.tape, k.output.trans h.output, Nat.le_trans h.size k.size, fun i hi hf => (k.block i (Nat.lt_of_lt_of_le hi h.size) (fun q => hf (hG i hi q))).trans (h.block i hi hf)⟩
theorem Kp.next {F : Nat → Prop} {a b c : World} (h : Kp F a b) (k : Below b.heap.size b c) : Kp F a c := h.trans (Kp.of (F := F) k) (fun _ _ q => q)
theorem Kp.below {F : Nat → Prop} {a b : World} {B : Nat} (h : Kp F a b) (hF : ∀ k, F k → B ≤ k) (hB : B ≤ a.heap.size) : Below B a b := ⟨h.os, h.tape, h.output, h.size, fun k hk => h.block k (by omega) (fun q => by have := hF k q; omega)⟩
theorem Kp.setCell {F : Nat → Prop} {a w : World} (h : Kp F a w) {p : Addr} (hp : F p.block ∨ a.heap.size ≤ p.block) (u : Value) : Kp F a (w.setCell p u) :=
  ⟨h.os, h.tape, h.output, Nat.le_trans h.size (by simp [World.setCell]), fun k hk hf => (Below.heap_setCell _ _ _ _ (by rcases hp with q | q; exact fun e => hf (e ▸ q); omega)).trans (h.block k hk hf)⟩
theorem Kp.setCells {F : Nat → Prop} {a : World} {B : Nat} (hp : F B ∨ a.heap.size ≤ B) : ∀ (vs : List Value) (o : Nat) {w : World}, Kp F a w → Kp F a (w.setCells B o vs)
  | [], _, _, h => h
  | v :: r, o, _, h => Kp.setCells hp r (o + 1) (h.setCell (p := ⟨B, o, none⟩) hp v)
theorem Kp.alloc {F : Nat → Prop} {a w : World} (h : Kp F a w) (o : Obj) : Kp F a (w.alloc o) := h.next ((Below.refl _ _).alloc (Nat.le_refl _) _)
theorem Kp.grown {F : Nat → Prop} {a w w' : World} {row : Option Nat} (h : Kp F a w) (hg : w.grownBy w' row) (hr : ∀ k, row = some k → F k ∨ a.heap.size ≤ k) : Kp F a w' :=
  ⟨hg.os.trans h.os, hg.tape.trans h.tape, hg.output.trans h.output, Nat.le_trans h.size hg.size, fun k hk hf => (hg.block k (Nat.lt_of_lt_of_le hk h.size) (fun e => by rcases hr k e.symm with q | q; exact hf q; omega)).trans (h.block k hk hf)⟩
def Blk (w : World) (g : Nat) (t : TypeId) (n : Nat) : Prop := ∃ cur, w.heap[g]? = some (.cells cur t (0, 0)) ∧ n ≤ cur.size
theorem Blk.lt {w : World} {g : Nat} {t : TypeId} {n : Nat} (h : Blk w g t n) : g < w.heap.size := by obtain ⟨_, h, _⟩ := h; exact (Array.getElem?_eq_some_iff.1 h).1
theorem Blk.same {w w' : World} {g : Nat} {t : TypeId} {n : Nat} (h : Blk w g t n) (e : w'.heap[g]? = w.heap[g]?) : Blk w' g t n := by obtain ⟨c, h, k⟩ := h; exact ⟨c, e.trans h, k⟩
theorem Blk.le {w : World} {g : Nat} {t : TypeId} {n m : Nat} (h : Blk w g t n) (e : m ≤ n) : Blk w g t m := by obtain ⟨c, h, k⟩ := h; exact ⟨c, h, Nat.le_trans e k⟩
theorem Blk.new (w : World) (c : Array Value) (t : TypeId) {n : Nat} (e : n ≤ c.size) : Blk (w.alloc (.cells c t)) w.heap.size t n := ⟨c, World.alloc_heap_new w _, e⟩
theorem Blk.ne {w : World} {g g' : Nat} {t t' : TypeId} {n n' : Nat} (h : Blk w g t n) (k : Blk w g' t' n') (e : t ≠ t') : g ≠ g' := by
  rintro rfl
  obtain ⟨c, h, _⟩ := h
  obtain ⟨c', k, _⟩ := k
  rw [h] at k
  cases k
  exact e rfl
theorem Blk.setCell {w : World} {g : Nat} {t : TypeId} {n : Nat} (h : Blk w g t n) (a : Addr) (v : Value) : Blk (w.setCell a v) g t n := by
  obtain ⟨c, h, k⟩ := h
  unfold Blk World.setCell
  simp only [Array.getElem?_modify]
  split
  · rw [h]
    refine ⟨_, rfl, ?_⟩
    split <;> simpa using k
  · exact ⟨c, h, k⟩
theorem Blk.setCells {g : Nat} {t : TypeId} {n : Nat} (B : Nat) : ∀ (vs : List Value) (o : Nat) {w : World}, Blk w g t n → Blk (w.setCells B o vs) g t n
  | [], _, _, h => h
  | v :: r, o, _, h => Blk.setCells B r (o + 1) (h.setCell ⟨B, o, none⟩ v)
theorem Blk.next {w w' : World} {g : Nat} {t : TypeId} {n : Nat} (h : Blk w g t n) (k : Below w.heap.size w w') : Blk w' g t n := h.same (k.block g h.lt)
theorem Blk.there {w : World} {g : Nat} {t : TypeId} {n : Nat} (h : Blk w g t n) (o m : Nat) (e : o + m ≤ n) : w.there g o m := fun j hj => by
  obtain ⟨c, h, k⟩ := h
  refine ⟨?_, ?_⟩
  · simp only [World.cell?, h]
    simp [show o + j < c.size by omega]
  · simp only [World.frozen?, h]
    simp
theorem Blk.unfrozen {w : World} {g : Nat} {t : TypeId} {n : Nat} (h : Blk w g t n) (o : Nat) : w.frozen? ⟨g, o, none⟩ = false := by
  obtain ⟨c, h, k⟩ := h
  simp only [World.frozen?, h]
  simp
theorem own_same {w w' : World} {B : Nat} {e : TypeId} {sz : Nat} {v : Value} {n : Nat} {xs : List Value} (h : w.ownsRow B e sz v n xs) (hk : ∀ g, v.ownBlock = some g → w'.heap[g]? = w.heap[g]?) : w'.ownsRow B e sz v n xs := by
  refine ⟨h.1, ?_⟩
  rcases h.2 with q | ⟨g, cap, cur, rfl, h1, h2, h3⟩
  · exact .inl q
  · exact .inr ⟨g, cap, cur, rfl, h1, (hk g rfl).trans h2, h3⟩
theorem own_blk {w : World} {B : Nat} {e : TypeId} {sz : Nat} {v : Value} {n : Nat} {xs : List Value} (h : w.ownsRow B e sz v n xs) : ∀ g, v.ownBlock = some g → Blk w g e (n * sz) := fun g hg => by
  rcases h.2 with ⟨rfl, _⟩ | ⟨g, cap, cur, rfl, h1, h2, h3, _, h4, _⟩
  · cases hg
  · cases hg
    exact ⟨cur, h2, by rw [h4]; exact Nat.mul_le_mul_right _ h3⟩
theorem own_ne {w : World} {B : Nat} {e : TypeId} {sz : Nat} {v : Value} {n : Nat} {xs : List Value} (h : w.ownsRow B e sz v n xs) {b : Nat} {t : TypeId} {m : Nat} (k : Blk w b t m) (ht : t ≠ e) : v.ownBlock ≠ some b := fun q => (own_blk h b q).ne k (Ne.symm ht) rfl
theorem own_slice {w : World} {B : Nat} {e : TypeId} {sz : Nat} {v : Value} {n : Nat} {xs : List Value} (h : w.ownsRow B e sz v n xs) : ∃ q cap, v = .slice q n cap ∧ n ≤ cap ∧ (0 < n → ∃ g, q = some ⟨g, 0, none⟩ ∧ w.rangeAt g 0 xs) := by
  rcases h.2 with ⟨rfl, rfl⟩ | ⟨g, cap, cur, rfl, h1, h2, h3, _, h4, h5⟩
  · exact ⟨none, 0, rfl, Nat.le_refl _, fun q => by omega⟩
  · refine ⟨_, cap, rfl, h3, fun _ => ⟨g, rfl, fun j v hv => ?_⟩⟩
    rw [Nat.zero_add]
    simp only [World.cell?, h2]
    rw [← h5, List.getElem?_take] at hv
    split at hv
    · simpa using hv
    · cases hv
theorem own_next {w w' : World} {B : Nat} {e : TypeId} {sz : Nat} {v : Value} {n : Nat} {xs : List Value} (h : w.ownsRow B e sz v n xs) (k : Below w.heap.size w w') : w'.ownsRow B e sz v n xs := own_same h fun g hg => k.block g (own_blk h g hg).lt
theorem range_same {w w' : World} {g o : Nat} {xs : List Value} (h : w.rangeAt g o xs) (e : w'.heap[g]? = w.heap[g]?) : w'.rangeAt g o xs := fun j v hv => (World.cell?_of_block (w := w) (w' := w') (a := ⟨g, o + j, none⟩) e).trans (h j v hv)
theorem set_heap {w : World} {a : Addr} {v : Value} {k : Nat} (h : k ≠ a.block) : (w.setCell a v).heap[k]? = w.heap[k]? := Below.heap_setCell _ _ _ _ h
theorem sets_heap {B k : Nat} (h : k ≠ B) : ∀ (vs : List Value) (o : Nat) (w : World), (w.setCells B o vs).heap[k]? = w.heap[k]?
  | [], _, _ => rfl
  | _ :: r, o, _ => (sets_heap h r (o + 1) _).trans (set_heap (a := ⟨B, o, none⟩) h)
theorem set_size (w : World) (a : Addr) (v : Value) : (w.setCell a v).heap.size = w.heap.size := by simp [World.setCell]
theorem sets_size (B : Nat) : ∀ (vs : List Value) (o : Nat) (w : World), (w.setCells B o vs).heap.size = w.heap.size
  | [], _, _ => rfl
  | _ :: r, o, _ => (sets_size B r (o + 1) _).trans (set_size _ _ _)
theorem below2 {w w1 w2 : World} (h : Below w.heap.size w w1) (k : Below w1.heap.size w1 w2) : Below w.heap.size w w2 := h.trans (k.mono h.size)
theorem flat_at {α β : Type} (f : α → List β) (sz : Nat) (hf : ∀ a, (f a).length = sz) : ∀ (l : List α) (i j : Nat) (hi : i < l.length), j < sz → (l.flatMap f)[i * sz + j]? = (f l[i])[j]?
  | [], _, _, hi, _ => by simp at hi
  | a :: l, 0, j, _, hj => by
    rw [List.flatMap_cons, Nat.zero_mul, Nat.zero_add, List.getElem?_append_left (by rw [hf]; exact hj)]
    rfl
  | a :: l, i + 1, j, hi, hj => by
    rw [List.flatMap_cons, List.getElem?_append_right (by rw [hf, Nat.succ_mul]; omega), hf, Nat.succ_mul, show i * sz + sz + j - sz = i * sz + j by omega]
    exact flat_at f sz hf l i j (by simpa using hi) hj
theorem wpList_app {P : Program} (t e : TypeId) (z : Value) (size bytes : Nat) (ht : P.underlying t = some (.slice e)) (hinf : (P.info? e).map (fun i => (i.zero, i.size, i.bytes)) = some (some z, size, bytes)) (hzs : z.cells.size = size) (hsz : 0 < size) (hby : bytes ≤ 100)
    {w : World} {ops : Array Oper} {rest : List Oper} {o : Oper} {a : Act} {Q : Exit → Act → World → Prop} (hgd : o.guard = none) (s x : Operand)
    (ho : o.op = .call { callee := .builtin .append, args := #[s, x], argTypes := #[t, t] })
    (base : Nat) (v : Value) (n : Nat) (xs : List Value) (hs : a.eval s = v) (hown : w.ownsRow base e size v n xs) (C : Array Value) (hC : C.size = size) (h1 : ∀ u ∈ C.toList, u.oneCell' = true) (hx : a.eval x = .slice (some ⟨w.heap.size, 0, none⟩) 1 1)
    (h40 : n + 1 ≤ 1000000000) (hbase : base ≤ w.heap.size)
    (h : ∀ v' w', Hid (w'.ownsRow base e size v' (n + 1) (xs ++ C.toList)) → Hid ((w.alloc (.cells C e)).grownBy w' v.ownBlock ∧ (v'.ownBlock = v.ownBlock ∨ v'.ownBlock = some (w.heap.size + 1))) → wpList P ops Q rest (a.put o.dst v') w') : wpList P ops Q (o :: rest) a (w.alloc (.cells C e)) := by
  obtain ⟨i0, hi, hz0, hz1, hz2⟩ := info_parts hinf
  have ho2 := World.ownsRow.alloc hown (.cells C e)
  have hb : (n + 1) * bytes ≤ 140737488355328 := Nat.le_trans (Nat.mul_le_mul h40 hby) (by decide)
  obtain ⟨v', w', hr, h2, h3, _, h4⟩ := run_append_own_at (P := P) (w.alloc (.cells C e)) base t o.type e i0 z size bytes ht hi hz0 hz1 hz2 hzs hsz v n xs ho2 ⟨w.heap.size, 0, none⟩ 1 1 C.toList (by rw [Nat.one_mul]; simpa using hC)
    (fun j u hu => by rw [Addr.add_mid, Nat.zero_add]; simp only [World.cell?, heap_alloc_new w _]; simpa using hu) h1 (by unfold maxLen; omega) hb (by simp; omega)
  rw [World.size_alloc] at h4
  refine wpList_plain hgd fun K hK => ?_
  unfold Oper.wp execOp
  simp only [ho, resolve, invoke, builtin, Sem.run_bind, Sem.run_pure, Result.andThen_ok, List.map_toArray, List.map_cons, List.map_nil, hs, hx, hr]
  exact hK _ _ (h v' w' h2 ⟨h3, h4⟩)
theorem step_app {P : Program} (t e : TypeId) (z : Value) (size bytes : Nat) (ht : P.underlying t = some (.slice e)) (hinf : (P.info? e).map (fun i => (i.zero, i.size, i.bytes)) = some (some z, size, bytes)) (hzs : z.cells.size = size) (hsz : 0 < size) (hby : bytes ≤ 100)
    {w : World} {ops : Array Oper} {o : Oper} {a : Act} {K : Act → World → Prop} {Q : Exit → Act → World → Prop} {E : Prop} (hgd : o.guard = none) (s x : Operand)
    (ho : o.op = .call { callee := .builtin .append, args := #[s, x], argTypes := #[t, t] })
    (base : Nat) (v : Value) (n : Nat) (xs : List Value) (hs : a.eval s = v) (hown : w.ownsRow base e size v n xs) (g : Nat) (C : List Value) (hC : C.length = size) (h1 : ∀ u ∈ C, u.oneCell' = true) (hx : a.eval x = .slice (some ⟨g, 0, none⟩) 1 1)
    (hr : w.rangeAt g 0 C) (h40 : n + 1 ≤ 1000000000) (hbase : base ≤ w.heap.size)
    (h : ∀ v' w', Hid (w'.ownsRow base e size v' (n + 1) (xs ++ C)) → Hid (w.grownBy w' v.ownBlock ∧ (v'.ownBlock = v.ownBlock ∨ v'.ownBlock = some w.heap.size)) → K (a.put o.dst v') w') : if Region.wanted o (yielded ops a.tmps) = true then Oper.wp P o a w K Q else E := by
  have hw : Region.wanted o (yielded ops a.tmps) = true := by simp [Region.wanted, hgd]
  rw [if_pos hw]
  obtain ⟨i0, hi, hz0, hz1, hz2⟩ := info_parts hinf
  have hb : (n + 1) * bytes ≤ 140737488355328 := Nat.le_trans (Nat.mul_le_mul h40 hby) (by decide)
  obtain ⟨v', w', hr, h2, h3, _, h4⟩ := run_append_own_at (P := P) w base t o.type e i0 z size bytes ht hi hz0 hz1 hz2 hzs hsz v n xs hown ⟨g, 0, none⟩ 1 1 C (by rw [Nat.one_mul]; exact hC)
    (fun j u hu => by rw [Addr.add_mid]; exact hr j u hu) h1 (by unfold maxLen; omega) hb hbase
  unfold Oper.wp execOp
  simp only [ho, resolve, invoke, builtin, Sem.run_bind, Sem.run_pure, Result.andThen_ok, List.map_toArray, List.map_cons, List.map_nil, hs, hx, hr]
  exact h v' w' h2 ⟨h3, h4⟩
theorem step_call {P : Program} {w : World} {ops : Array Oper} {o : Oper} {a : Act} {K : Act → World → Prop} {Q : Exit → Act → World → Prop} {E : Prop} (hgd : o.guard = none) (f : FuncId) (xs : List Operand) (ts : Array TypeId) (us : List Value)
    (ho : o.op = .call { callee := .value (.func f), args := xs.toArray, argTypes := ts }) (hx : xs.map a.eval = us) (hcf : ∀ w : World, (callFunc f us.toArray).run P w = .ok (.enter f us.toArray) w)
    (Post : Value → World → Prop) (hc : Calls P f us.toArray w fun e w' => ∃ v, e = .returned v ∧ Post v w') (hK : ∀ v w', Post v w' → K (a.put o.dst v) w') : if Region.wanted o (yielded ops a.tmps) = true then Oper.wp P o a w K Q else E := by
  have hw : Region.wanted o (yielded ops a.tmps) = true := by simp [Region.wanted, hgd]
  rw [if_pos hw]
  have hf : a.eval (.func f) = .func (.func f) #[] #[] := rfl
  have hr : (execOp a.eval o).run P w = .ok (.enter f us.toArray) w := by
    unfold execOp
    simp only [ho, resolve, invoke, Sem.run_bind, List.map_toArray, hx, hf]
    simp [go_sem, hcf]
  unfold Oper.wp
  rw [hr, Oper.upon_enter]
  refine hc.mono ?_
  rintro e w' ⟨v, rfl, hb⟩
  exact hK _ _ hb
theorem own_ge {w : World} {B : Nat} {e : TypeId} {sz : Nat} {v : Value} {n : Nat} {xs : List Value} (h : w.ownsRow B e sz v n xs) : ∀ g, v.ownBlock = some g → B ≤ g := fun g hg => (h.lt g hg).1
section
variable {P : Program} {w : World} {base : Nat} {e : TypeId} {size : Nat}
theorem own_rebase {b c : Nat} {v : Value} {n : Nat} {xs : List Value} (h : w.ownsRow b e size v n xs) (hc : ∀ g, v.ownBlock = some g → c ≤ g) : w.ownsRow c e size v n xs := by
  refine ⟨h.1, ?_⟩
  rcases h.2 with h | ⟨g, cap, cur, rfl, h2, h3⟩
  · exact .inl h
  · exact .inr ⟨g, cap, cur, rfl, hc g rfl, h3⟩
theorem own_down {b c : Nat} {v : Value} {n : Nat} {xs : List Value} (h : w.ownsRow b e size v n xs) (hc : c ≤ b) : w.ownsRow c e size v n xs := own_rebase h fun g hg => Nat.le_trans hc (h.lt g hg).1
theorem app_any (t ty : TypeId) (z : Value) (bytes : Nat) (ht : P.underlying t = some (.slice e)) (hinf : (P.info? e).map (fun i => (i.zero, i.size, i.bytes)) = some (some z, size, bytes)) (hzs : z.cells.size = size) (hsz : 0 < size) (hby : bytes ≤ 100)
    (v : Value) (n : Nat) (xs : List Value) (hown : w.ownsRow base e size v n xs) (g : Nat) (C : List Value) (hC : C.length = size) (h1 : ∀ u ∈ C, u.oneCell' = true) (hr : w.rangeAt g 0 C) (h40 : n + 1 ≤ 1000000000) (hbase : base ≤ w.heap.size) :
    ∃ v' w', (Builtin.append_ #[t, t] ty #[v, .slice (some ⟨g, 0, none⟩) 1 1]).run P w = .ok v' w' ∧ w'.ownsRow base e size v' (n + 1) (xs ++ C) ∧ w.grownBy w' v.ownBlock := by
  obtain ⟨i, hi, hz0, hz1, hz2⟩ := info_parts hinf
  have hb : (n + 1) * bytes ≤ 140737488355328 := Nat.le_trans (Nat.mul_le_mul h40 hby) (by decide)
  obtain ⟨v', w', hr, h2, h3, _⟩ := run_append_own (P := P) w base t ty e i z size bytes ht hi hz0 hz1 hz2 hzs hsz v n xs hown ⟨g, 0, none⟩ 1 1 C (by rw [Nat.one_mul]; exact hC)
    (fun j u hu => by rw [Addr.add_mid]; exact hr j u hu) h1 (by unfold maxLen; omega) hb hbase
  exact ⟨v', w', hr, h2, h3⟩
theorem app_in (t ty : TypeId) (z : Value) (bytes : Nat) (ht : P.underlying t = some (.slice e)) (hinf : (P.info? e).map (fun i => (i.zero, i.size, i.bytes)) = some (some z, size, bytes)) (hzs : z.cells.size = size) (hsz : 0 < size) (hby : bytes ≤ 100)
    (G n cap : Nat) (xs : List Value) (hown : w.ownsRow base e size (.slice (some ⟨G, 0, none⟩) n cap) n xs) (g : Nat) (C : List Value) (hC : C.length = size) (h1 : ∀ u ∈ C, u.oneCell' = true) (hr : w.rangeAt g 0 C) (h40 : n + 1 ≤ 1000000000) (hbase : base ≤ w.heap.size) (hroom : n + 1 ≤ cap) :
    ∃ w', (Builtin.append_ #[t, t] ty #[.slice (some ⟨G, 0, none⟩) n cap, .slice (some ⟨g, 0, none⟩) 1 1]).run P w = .ok (.slice (some ⟨G, 0, none⟩) (n + 1) cap) w' ∧ w'.ownsRow base e size (.slice (some ⟨G, 0, none⟩) (n + 1) cap) (n + 1) (xs ++ C) ∧ w.grownBy w' (some G) := by
  obtain ⟨v', w', hr2, h2, h3⟩ := app_any t ty z bytes ht hinf hzs hsz hby _ n xs hown g C hC h1 hr h40 hbase
  obtain ⟨i, hi, hz0, hz1, hz2⟩ := info_parts hinf
  rcases hown.2 with ⟨hv, _⟩ | ⟨g', cap', cur, hv, hbg, hg, hnc, hcm, hcs, htake⟩
  · cases hv
  · simp only [Value.slice.injEq, Option.some.injEq, Addr.mk.injEq] at hv
    obtain ⟨⟨rfl, _⟩, _, rfl⟩ := hv
    have hr3 := run_append_room (P := P) w t ty e i ht hi G n cap cur hg ⟨g, 0, none⟩ 1 1 C (by rw [hz1, Nat.one_mul]; exact hC) (fun j u hu => by rw [Addr.add_mid]; exact hr j u hu) h1 hroom (by rw [hC, hcs, hz1]; have := Nat.mul_le_mul_right size hroom; rw [Nat.succ_mul] at this; exact this)
    rw [hr2] at hr3
    injection hr3 with e1 e2
    subst e1
    exact ⟨w', hr2, h2, h3⟩
theorem wpList_apr {ops : Array Oper} {rest : List Oper} {o : Oper} {a : Act} {Q : Exit → Act → World → Prop} {v' : Value} {w' : World} (hgd : o.guard = none) (s x : Operand) (t : TypeId)
    (ho : o.op = .call { callee := .builtin .append, args := #[s, x], argTypes := #[t, t] }) (hr : (Builtin.append_ #[t, t] o.type #[a.eval s, a.eval x]).run P w = .ok v' w')
    (h : wpList P ops Q rest (a.put o.dst v') w') : wpList P ops Q (o :: rest) a w := by
  refine wpList_plain hgd fun K hK => ?_
  unfold Oper.wp execOp
  simp only [ho, resolve, invoke, builtin, Sem.run_bind, Sem.run_pure, Result.andThen_ok, List.map_toArray, List.map_cons, List.map_nil, hr]
  exact hK _ _ h
end
def Row (w : World) (B : Nat) (q : Option Addr) (n : Nat) (xs : List Value) : Prop := 0 < n → ∃ g o, q = some ⟨g, o, none⟩ ∧ g < B ∧ w.rangeAt g o xs
theorem Row.below {w w' : World} {B D : Nat} {q : Option Addr} {n : Nat} {xs : List Value} (h : Row w B q n xs) (hb : Below D w w') (hD : B ≤ D) : Row w' B q n xs := fun hn => by
  obtain ⟨g, o, h1, h2, h3⟩ := h hn
  exact ⟨g, o, h1, h2, range_same h3 (hb.block g (by omega))⟩
theorem Row.up {w : World} {B C : Nat} {q : Option Addr} {n : Nat} {xs : List Value} (h : Row w B q n xs) (hC : B ≤ C) : Row w C q n xs := fun hn => by
  obtain ⟨g, o, h1, h2, h3⟩ := h hn
  exact ⟨g, o, h1, by omega, h3⟩
end Go.Proofs.YtahdkffijlfmnaaGreatDoor

namespace Go.Proofs.YtahdkffijlfmnaaGreatDoor.Hp
open Go.RowKit
set_option maxHeartbeats 400000 in
theorem nanI_any (a : Int) (w : World) : Calls Tryz.prog 148 #[.int .i64 a] w fun e w' => e = .returned (.bool false) ∧ w' = w := by
  go_enter Tryz.func148, Tryz.ntmps148
  go_wp2
  go_ret
  exact ⟨by simp, rfl⟩
set_option maxHeartbeats 400000 in
theorem nanT_any (a : ByteArray) (w : World) : Calls Tryz.prog 149 #[.string a] w fun e w' => e = .returned (.bool false) ∧ w' = w := by
  go_enter Tryz.func149, Tryz.ntmps149
  go_wp2
  go_ret
  exact ⟨by simp, rfl⟩
set_option maxHeartbeats 400000 in
theorem cmpI_any (a b : Int) (w : World) : Calls Tryz.prog 142 #[.int .i64 a, .int .i64 b] w fun e w' => e = .returned (.int .i64 (cmpI a b)) ∧ w' = w := by
  unfold cmpI
  by_cases h1 : a < b
  · rw [if_pos h1]
    go_enter Tryz.func142, Tryz.ntmps142
    go_wp2_with (first | (go_at_call 148; refine (nanI_any _ _).mono ?_; rintro e _ ⟨rfl, rfl⟩) | go_in)
    go_ret
    exact ⟨rfl, rfl⟩
  rw [if_neg h1]
  by_cases h2 : a = b
  · subst h2
    rw [if_pos rfl]
    have h3 : ¬ a > a := by omega
    go_enter Tryz.func142, Tryz.ntmps142
    go_wp2_with (first | (go_at_call 148; refine (nanI_any _ _).mono ?_; rintro e _ ⟨rfl, rfl⟩) | go_in)
    go_ret
    exact ⟨rfl, rfl⟩
  · rw [if_neg h2]
    have h3 : b < a := by omega
    go_enter Tryz.func142, Tryz.ntmps142
    go_wp2_with (first | (go_at_call 148; refine (nanI_any _ _).mono ?_; rintro e _ ⟨rfl, rfl⟩) | go_in)
    go_ret
    exact ⟨rfl, rfl⟩
set_option maxHeartbeats 400000 in
theorem cmpT_any (a b : ByteArray) (w : World) : Calls Tryz.prog 143 #[.string a, .string b] w fun e w' => e = .returned (.int .i64 (cmpT a b)) ∧ w' = w := by
  unfold cmpT
  by_cases h1 : Op.bytesLess a.toList b.toList = true
  · rw [if_pos h1]
    go_enter Tryz.func143, Tryz.ntmps143
    go_wp2_with (first | (go_at_call 149; refine (nanT_any _ _).mono ?_; rintro e _ ⟨rfl, rfl⟩) | go_in)
    go_ret
    exact ⟨rfl, rfl⟩
  rw [if_neg h1]
  have h1' : Op.bytesLess a.toList b.toList = false := by simpa using h1
  clear h1
  by_cases h2 : a.toList = b.toList
  · rw [if_pos h2]
    have h3 : a = b := ByteArray.ext (by rw [ByteArray.toList_eq, ByteArray.toList_eq] at h2; exact Array.toList_inj.1 h2)
    clear h2
    subst h3
    go_enter Tryz.func143, Tryz.ntmps143
    go_wp2_with (first | (go_at_call 149; refine (nanT_any _ _).mono ?_; rintro e _ ⟨rfl, rfl⟩) | go_in)
    go_ret
    exact ⟨rfl, rfl⟩
  · rw [if_neg h2]
    have h3 : (a.toList == b.toList) = false := by simpa using h2
    go_enter Tryz.func143, Tryz.ntmps143
    go_wp2_with (first | (go_at_call 149; refine (nanT_any _ _).mono ?_; rintro e _ ⟨rfl, rfl⟩) | go_in)
    go_ret
    exact ⟨rfl, rfl⟩
end Go.Proofs.YtahdkffijlfmnaaGreatDoor.Hp

namespace Go.Proofs.YtahdkffijlfmnaaGreatDoor.Hp
open Go.RowKit
structure Hpt where
  b : Nat
  o : Nat
  t : TypeId
  n : Nat
  rs : List (Nat × Value)
def hz (g : Nat) : Hpt := ⟨g, 0, 76, 4, []⟩
abbrev V := Int × Int × ByteArray
def vc (v : V) : List Value := [.int .i64 v.1, .int .i64 v.2.1, .string v.2.2]
def vcs (l : List V) : List Value := l.flatMap vc
theorem vcs_len (l : List V) : (vcs l).length = l.length * 3 := by
  unfold vcs
  induction l with
  | nil => rfl
  | cons a l ih => rw [List.flatMap_cons, List.length_append, ih, List.length_cons]; simp [vc]; omega
theorem vcs_app (a b : List V) : vcs (a ++ b) = vcs a ++ vcs b := List.flatMap_append
theorem vcs_one {l : List V} : ∀ v ∈ vcs l, v.oneCell' = true := fun v hv => by
  unfold vcs at hv
  obtain ⟨x, _, hx⟩ := List.mem_flatMap.1 hv
  unfold vc at hx
  simp only [List.mem_cons, List.not_mem_nil, or_false] at hx
  rcases hx with rfl | rfl | rfl <;> rfl
theorem flat_at {α β : Type} (f : α → List β) (sz : Nat) (hf : ∀ a, (f a).length = sz) : ∀ (l : List α) (i j : Nat) (hi : i < l.length), j < sz → (l.flatMap f)[i * sz + j]? = (f l[i])[j]?
  | [], _, _, hi, _ => by simp at hi
  | a :: l, 0, j, _, hj => by
    rw [List.flatMap_cons, Nat.zero_mul, Nat.zero_add, List.getElem?_append_left (by rw [hf]; exact hj)]
    rfl
  | a :: l, i + 1, j, hi, hj => by
    rw [List.flatMap_cons, List.getElem?_append_right (by rw [hf, Nat.succ_mul]; omega), hf, Nat.succ_mul, show i * sz + sz + j - sz = i * sz + j by omega]
    exact flat_at f sz hf l i j (by simpa using hi) hj
theorem vcs_get {w : World} {g o : Nat} {l : List V} (h : w.rangeAt g o (vcs l)) (i : Nat) (hi : i < l.length) : w.rangeAt g (o + i * 3) (vc l[i]) := fun j v hv => by
  have hj : j < 3 := (List.getElem?_eq_some_iff.1 hv).1
  have := flat_at vc 3 (fun _ => rfl) l i j hi hj
  rw [Nat.add_assoc]
  exact h _ v (this.trans hv)
theorem flat_set {α β : Type} (f : α → List β) (sz : Nat) (hf : ∀ a, (f a).length = sz) (l : List α) (i : Nat) (hi : i < l.length) (x : α) (j : Nat) : ((l.set i x).flatMap f)[j]? = if i * sz ≤ j ∧ j < i * sz + sz then (f x)[j - i * sz]? else (l.flatMap f)[j]? := by
  have hlen : ∀ l : List α, (l.flatMap f).length = l.length * sz := fun l => by
    induction l with
    | nil => simp
    | cons a l ih => rw [List.flatMap_cons, List.length_append, ih, hf, List.length_cons, Nat.succ_mul, Nat.add_comm]
  have hl := hlen (l.set i x)
  have hl' := hlen l
  rw [List.length_set] at hl
  rcases Nat.eq_zero_or_pos sz with rfl | hs
  · rw [if_neg (by omega), List.getElem?_eq_none (by omega), List.getElem?_eq_none (by omega)]
  by_cases hj : j < l.length * sz
  · have hd : j / sz < l.length := by rw [Nat.div_lt_iff_lt_mul hs]; exact hj
    have hm := Nat.mod_lt j hs
    have he : j / sz * sz + j % sz = j := Nat.div_add_mod' j sz
    have e1 := flat_at f sz hf (l.set i x) (j / sz) (j % sz) (by simpa using hd) hm
    have e2 := flat_at f sz hf l (j / sz) (j % sz) hd hm
    rw [he] at e1 e2
    rw [e1, e2]
    by_cases hi2 : i = j / sz
    · subst hi2
      rw [if_pos ⟨by omega, by omega⟩, List.getElem_set_self, show j - j / sz * sz = j % sz by omega]
    · rw [List.getElem_set_ne hi2, if_neg]
      rintro ⟨q1, q2⟩
      apply hi2
      symm
      rw [Nat.div_eq_iff hs]
      have : i * sz + sz = (i + 1) * sz := by rw [Nat.succ_mul]
      omega
  · have : (i + 1) * sz ≤ l.length * sz := Nat.mul_le_mul_right _ hi
    rw [Nat.succ_mul] at this
    rw [if_neg (by omega), List.getElem?_eq_none (by omega), List.getElem?_eq_none (by omega)]
structure Ar where
  kind : Int
  els : List V
  q : Option Addr
  g : Nat
  o : Nat
def ac (a : Ar) : List Value := [.int .i64 a.kind, .slice a.q a.els.length a.els.length]
def acs (As : List Ar) : List Value := As.flatMap ac
abbrev Hp := List (Int × List V)
def absA (As : List Ar) : Hp := As.map fun a => (a.kind, a.els)
theorem abs_len (As : List Ar) : (absA As).length = As.length := by simp [absA]
def usedS : Hp → Nat
  | [] => 0
  | a :: A => a.2.length + 1 + usedS A
theorem used_app (A B : Hp) : usedS (A ++ B) = usedS A + usedS B := by
  induction A with
  | nil => simp [usedS]
  | cons a A ih => rw [List.cons_append, usedS, ih, usedS]; omega
theorem used_ge (A : Hp) : A.length ≤ usedS A := by
  induction A with
  | nil => simp [usedS]
  | cons a A ih => rw [usedS, List.length_cons]; omega
theorem used_mem {A : Hp} {x : Int × List V} (h : x ∈ A) : x.2.length + 1 ≤ usedS A := by
  induction A with
  | nil => cases h
  | cons a A ih =>
    rw [usedS]
    rcases List.mem_cons.1 h with rfl | h
    · omega
    · have := ih h; omega
def mayS (v : V) (kind : Int) (cnt : Nat) : Bool := (v.1 == kind && okV v.1 v.2.1 v.2.2) && (kind != 4 || decide (v.2.1 ≤ (cnt : Int)))
structure HeapG (w : World) (p : Hpt) (lim : Nat) (As : List Ar) (rq : Option Addr) (rn rg ro : Nat) (av : Value) (F : Nat → Prop) (u : Nat × Nat) : Prop where
  blk : Blk w p.b p.t p.n
  c0 : w.cell? ⟨p.b, p.o, none⟩ = some (.int .i64 (lim : Int))
  c1 : w.cell? ⟨p.b, p.o + 1, none⟩ = some (.int .i64 (u.1 : Int))
  c2 : w.cell? ⟨p.b, p.o + 2, none⟩ = some (.slice rq rn rn)
  c3 : w.cell? ⟨p.b, p.o + 3, none⟩ = some av
  arrs : w.ownsRow 0 117 2 av As.length (acs As)
  els : ∀ a ∈ As, a.els ≠ [] → a.q = some ⟨a.g, a.o, none⟩ ∧ Blk w a.g 52 (a.o + a.els.length * 3) ∧ w.rangeAt a.g a.o (vcs a.els) ∧ F a.g
  room : 0 < rn → rq = some ⟨rg, ro, none⟩ ∧ Blk w rg 52 (ro + rn * 3) ∧ F rg
  sep : As.Pairwise fun a b => a.els ≠ [] → b.els ≠ [] → a.g ≠ b.g ∨ a.o + a.els.length * 3 ≤ b.o
  sepr : ∀ a ∈ As, a.els ≠ [] → 0 < rn → a.g ≠ rg ∨ a.o + a.els.length * 3 ≤ ro
  fp : F p.b
  fa : ∀ g, av.ownBlock = some g → F g
  flt : ∀ g, F g → g < w.heap.size
  le : usedS (absA As) ≤ lim
  top : lim ≤ 100000
  small : rn ≤ 100000
  ok : ∀ a ∈ As, (1 ≤ a.kind ∧ a.kind ≤ 4) ∧ ∀ v ∈ a.els, mayS v a.kind u.2 = true
  tn : p.t ≠ 117 ∧ p.t ≠ 52 ∧ p.o + 4 ≤ p.n
  rs : ∀ x ∈ p.rs, (x.1 < p.o ∨ p.o + 4 ≤ x.1) ∧ w.cell? ⟨p.b, x.1, none⟩ = some x.2
abbrev HeapAt (w : World) (p : Hpt) (lim : Nat) (As : List Ar) (rq : Option Addr) (rn rg ro : Nat) (av : Value) (F : Nat → Prop) : Prop := HeapG w p lim As rq rn rg ro av F (usedS (absA As), As.length)
theorem HeapG.same {w w' : World} {p : Hpt} {lim : Nat} {As : List Ar} {rq : Option Addr} {rn rg ro : Nat} {av : Value} {F : Nat → Prop} {u : Nat × Nat} (h : HeapG w p lim As rq rn rg ro av F u) (hk : ∀ b, F b → w'.heap[b]? = w.heap[b]?) (hs : w.heap.size ≤ w'.heap.size) : HeapG w' p lim As rq rn rg ro av F u where
  blk := h.blk.same (hk p.b h.fp)
  c0 := (World.cell?_of_block (w := w) (a := ⟨p.b, p.o, none⟩) (hk p.b h.fp)).trans h.c0
  c1 := (World.cell?_of_block (w := w) (a := ⟨p.b, p.o + 1, none⟩) (hk p.b h.fp)).trans h.c1
  c2 := (World.cell?_of_block (w := w) (a := ⟨p.b, p.o + 2, none⟩) (hk p.b h.fp)).trans h.c2
  c3 := (World.cell?_of_block (w := w) (a := ⟨p.b, p.o + 3, none⟩) (hk p.b h.fp)).trans h.c3
  arrs := own_same h.arrs fun g hg => hk g (h.fa g hg)
  els a ha hn := by obtain ⟨h1, h2, h3, h4⟩ := h.els a ha hn; exact ⟨h1, h2.same (hk _ h4), range_same h3 (hk _ h4), h4⟩
  room hn := by obtain ⟨h1, h2, h4⟩ := h.room hn; exact ⟨h1, h2.same (hk _ h4), h4⟩
  sep := h.sep
  sepr := h.sepr
  fp := h.fp
  fa := h.fa
  flt g hg := Nat.lt_of_lt_of_le (h.flt g hg) hs
  le := h.le
  top := h.top
  small := h.small
  ok := h.ok
  tn := h.tn
  rs x hx := ⟨(h.rs x hx).1, (World.cell?_of_block (w := w) (a := ⟨p.b, x.1, none⟩) (hk p.b h.fp)).trans (h.rs x hx).2⟩
theorem HeapG.zc {w : World} {g lim : Nat} {As : List Ar} {rq : Option Addr} {rn rg ro : Nat} {av : Value} {F : Nat → Prop} {u : Nat × Nat} (h : HeapG w (hz g) lim As rq rn rg ro av F u) : w.cell? ⟨g, 0, none⟩ = some (.int .i64 (lim : Int)) ∧ w.cell? ⟨g, 1, none⟩ = some (.int .i64 (u.1 : Int)) ∧ w.cell? ⟨g, 2, none⟩ = some (.slice rq rn rn) ∧ w.cell? ⟨g, 3, none⟩ = some av ∧ Blk w g 76 4 := ⟨h.c0, h.c1, h.c2, h.c3, h.blk⟩
theorem HeapG.recount {w : World} {p : Hpt} {lim : Nat} {As : List Ar} {rq : Option Addr} {rn rg ro : Nat} {av : Value} {F : Nat → Prop} {u : Nat × Nat} (h : HeapG w p lim As rq rn rg ro av F u) (c : Nat) (hok : ∀ a ∈ As, (1 ≤ a.kind ∧ a.kind ≤ 4) ∧ ∀ v ∈ a.els, mayS v a.kind c = true) : HeapG w p lim As rq rn rg ro av F (u.1, c) :=
  ⟨h.blk, h.c0, h.c1, h.c2, h.c3, h.arrs, h.els, h.room, h.sep, h.sepr, h.fp, h.fa, h.flt, h.le, h.top, h.small, hok, h.tn, h.rs⟩
def HeapOf (w : World) (p : Hpt) (lim : Nat) (A : Hp) (F : Nat → Prop) : Prop := ∃ As rq rn rg ro av, absA As = A ∧ HeapAt w p lim As rq rn rg ro av F
theorem HeapOf.same {w w' : World} {p : Hpt} {lim : Nat} {A : Hp} {F : Nat → Prop} (h : HeapOf w p lim A F) (hk : ∀ b, F b → w'.heap[b]? = w.heap[b]?) (hs : w.heap.size ≤ w'.heap.size) : HeapOf w' p lim A F := by
  obtain ⟨As, rq, rn, rg, ro, av, e, h⟩ := h
  exact ⟨As, rq, rn, rg, ro, av, e, h.same hk hs⟩
theorem HeapOf.flt {w : World} {p : Hpt} {lim : Nat} {A : Hp} {F : Nat → Prop} (h : HeapOf w p lim A F) : ∀ g, F g → g < w.heap.size := by
  obtain ⟨As, rq, rn, rg, ro, av, e, h⟩ := h
  exact h.flt
theorem HeapG.next {w w' : World} {p : Hpt} {lim : Nat} {As : List Ar} {rq : Option Addr} {rn rg ro : Nat} {av : Value} {F : Nat → Prop} {u : Nat × Nat} (h : HeapG w p lim As rq rn rg ro av F u) (k : Below w.heap.size w w') : HeapG w' p lim As rq rn rg ro av F u := h.same (fun b hb => k.block b (h.flt b hb)) k.size
theorem HeapG.len {w : World} {p : Hpt} {lim : Nat} {As : List Ar} {rq : Option Addr} {rn rg ro : Nat} {av : Value} {F : Nat → Prop} {u : Nat × Nat} (h : HeapG w p lim As rq rn rg ro av F u) : As.length ≤ 100000 ∧ ∀ a ∈ As, a.els.length ≤ 100000 := by
  have h1 := used_ge (absA As)
  have h2 := h.le
  have h3 := h.top
  refine ⟨by rw [abs_len] at h1; omega, fun a ha => ?_⟩
  have := used_mem (A := absA As) (x := (a.kind, a.els)) (List.mem_map_of_mem ha)
  simp at this
  omega
def HeapC (w : World) (p : Hpt) (lim : Nat) (A : Hp) (c : Nat) (F : Nat → Prop) : Prop := ∃ As rq rn rg ro av, absA As = A ∧ HeapG w p lim As rq rn rg ro av F (usedS (absA As), c)
theorem HeapC.flt {w : World} {p : Hpt} {lim : Nat} {A : Hp} {c : Nat} {F : Nat → Prop} (h : HeapC w p lim A c F) : ∀ g, F g → g < w.heap.size := by
  obtain ⟨As, rq, rn, rg, ro, av, e, h⟩ := h
  exact h.flt
theorem HeapC.same {w w' : World} {p : Hpt} {lim : Nat} {A : Hp} {c : Nat} {F : Nat → Prop} (h : HeapC w p lim A c F) (hk : ∀ b, F b → w'.heap[b]? = w.heap[b]?) (hs : w.heap.size ≤ w'.heap.size) : HeapC w' p lim A c F := by
  obtain ⟨As, rq, rn, rg, ro, av, e, h⟩ := h
  exact ⟨As, rq, rn, rg, ro, av, e, h.same hk hs⟩
theorem HeapC.next {w w' : World} {p : Hpt} {lim : Nat} {A : Hp} {c : Nat} {F : Nat → Prop} (h : HeapC w p lim A c F) (k : Below w.heap.size w w') : HeapC w' p lim A c F := h.same (fun b hb => k.block b (h.flt b hb)) k.size
theorem HeapC.kept {w w' : World} {p : Hpt} {lim : Nat} {A : Hp} {c : Nat} {F G : Nat → Prop} (h : HeapC w p lim A c F) (k : Kp G w w') (hd : ∀ b, F b → ¬ G b) : HeapC w' p lim A c F := h.same (fun b hb => k.block b (h.flt b hb) (hd b hb)) k.size
theorem HeapOf.toC {w : World} {p : Hpt} {lim : Nat} {A : Hp} {F : Nat → Prop} (h : HeapOf w p lim A F) : HeapC w p lim A A.length F := by
  obtain ⟨As, rq, rn, rg, ro, av, rfl, h⟩ := h
  exact ⟨As, rq, rn, rg, ro, av, rfl, by rw [abs_len]; exact h⟩
theorem HeapC.toOf {w : World} {p : Hpt} {lim : Nat} {A : Hp} {c : Nat} {F : Nat → Prop} (h : HeapC w p lim A c F) (hok : ∀ a ∈ A, ∀ v ∈ a.2, mayS v a.1 A.length = true) : HeapOf w p lim A F := by
  obtain ⟨As, rq, rn, rg, ro, av, rfl, h⟩ := h
  refine ⟨As, rq, rn, rg, ro, av, rfl, ?_⟩
  have := h.recount As.length (fun a ha => ⟨(h.ok a ha).1, fun v hv => by
    have := hok (a.kind, a.els) (List.mem_map_of_mem ha) v hv
    rw [abs_len] at this
    exact this⟩)
  exact this
set_option maxHeartbeats 400000 in
theorem count_any {w : World} {p : Hpt} {lim : Nat} {As : List Ar} {rq : Option Addr} {rn rg ro : Nat} {av : Value} {F : Nat → Prop} {u : Nat × Nat} (h : HeapG w p lim As rq rn rg ro av F u) :
    Calls Tryz.prog 59 #[.pointer (some ⟨p.b, p.o, none⟩)] w fun e w' => e = .returned (.int .i64 (As.length : Int)) ∧ w' = w := by
  obtain ⟨q, cap, rfl, _, _⟩ := own_slice h.arrs
  have hl := h.len.1
  have h3 := h.c3
  clear h
  go_enter Tryz.func59, Tryz.ntmps59
  go_wp2
  go_ret
  exact ⟨by simp, rfl⟩
theorem one3 (k n : Int) (s : ByteArray) : (#[.int .i64 k, .int .i64 n, .string s] : Array Value).all (·.oneCell') = true := by
  refine all_oneCell_toArray (cs := [.int .i64 k, .int .i64 n, .string s]) ?_
  intro v hv
  simp only [List.mem_cons, List.not_mem_nil, or_false] at hv
  rcases hv with rfl | rfl | rfl <;> rfl
end Go.Proofs.YtahdkffijlfmnaaGreatDoor.Hp

namespace Go.Proofs.YtahdkffijlfmnaaGreatDoor.Hp
open Go.RowKit
set_option maxRecDepth 100000 in
set_option maxHeartbeats 1000000 in
theorem comparedI_any (op : Int) (a b : Int) (w : World) : Calls Tryz.prog 137 #[.int .i64 op, .int .i64 a, .int .i64 b] w fun e w' =>
    e = .returned (.tuple #[.agg #[.int .i64 (cmpS op (cmpI a b)).1, .int .i64 (cmpS op (cmpI a b)).2.1, .string (cmpS op (cmpI a b)).2.2.1], .int .i64 (cmpS op (cmpI a b)).2.2.2]) ∧ Below w.heap.size w w' := by
  have c0 : ∀ W : World, Calls Tryz.prog 142 #[.int .i64 a, .int .i64 b] W fun e w' => e = .returned (.int .i64 (cmpI a b)) ∧ w' = W := cmpI_any a b
  generalize cmpI a b = o at c0 ⊢
  have C0 : Hid (∀ W : World, Calls Tryz.prog 142 #[.int .i64 a, .int .i64 b] W fun e w' => e = .returned (.int .i64 o) ∧ w' = W) := c0
  clear c0
  have B1 : Below w.heap.size w (w.alloc (.cells #[.int .i64 0, .int .i64 0, .string e0] 52)) := (Below.refl _ w).alloc (Nat.le_refl _) _
  by_cases h8 : op = 8
  · subst h8
    rw [show cmpS 8 o = (2, bit (o == 0), e0, 0) from rfl]
    go_enter Tryz.func137, Tryz.ntmps137
    go_wp2_with (go_at_call 142; refine (C0.out _).mono ?_; rintro e _ ⟨rfl, rfl⟩)
    refine (truth_any _ _).mono ?_
    rintro e w1 ⟨rfl, hb⟩
    have m1 := (Box3.new w 0 0 e0 52).below hb (by simp)
    obtain ⟨⟨⟨q0, f0⟩, ⟨q1, f1⟩⟩, q2, f2⟩ := id m1
    have B2 : Below w.heap.size w (put3 w1 w.heap.size 2 (bit (o == 0)) e0) := below_put3 (B1.trans (hb.mono B1.size)) (Nat.le_refl _) _ _ _
    have m2 := m1.put 2 (bit (o == 0)) e0
    go_wp2
    change bodyPost Tryz.prog _ _ _ _ (put3 w1 w.heap.size 2 _ e0)
    generalize put3 w1 w.heap.size 2 (bit (o == 0)) e0 = X at B2 m2 ⊢
    obtain ⟨⟨⟨p0, -⟩, ⟨p1, -⟩⟩, p2, -⟩ := m2
    exact bodyPost_ret (v := .tuple #[.agg #[.int .i64 2, .int .i64 (bit (o == 0)), .string e0], .int .i64 0]) (by simp [results, Tryz.results137, go_sem, p0, p1, p2]) rfl ⟨rfl, B2⟩
  by_cases h9 : op = 9
  · subst h9
    rw [show cmpS 9 o = (2, bit (o != 0), e0, 0) from rfl]
    go_enter Tryz.func137, Tryz.ntmps137
    go_wp2_with (go_at_call 142; refine (C0.out _).mono ?_; rintro e _ ⟨rfl, rfl⟩)
    refine (truth_any _ _).mono ?_
    rintro e w1 ⟨rfl, hb⟩
    have m1 := (Box3.new w 0 0 e0 52).below hb (by simp)
    obtain ⟨⟨⟨q0, f0⟩, ⟨q1, f1⟩⟩, q2, f2⟩ := id m1
    have B2 : Below w.heap.size w (put3 w1 w.heap.size 2 (bit (o != 0)) e0) := below_put3 (B1.trans (hb.mono B1.size)) (Nat.le_refl _) _ _ _
    have m2 := m1.put 2 (bit (o != 0)) e0
    go_wp2
    change bodyPost Tryz.prog _ _ _ _ (put3 w1 w.heap.size 2 _ e0)
    generalize put3 w1 w.heap.size 2 (bit (o != 0)) e0 = X at B2 m2 ⊢
    obtain ⟨⟨⟨p0, -⟩, ⟨p1, -⟩⟩, p2, -⟩ := m2
    exact bodyPost_ret (v := .tuple #[.agg #[.int .i64 2, .int .i64 (bit (o != 0)), .string e0], .int .i64 0]) (by simp [results, Tryz.results137, go_sem, p0, p1, p2]) rfl ⟨rfl, B2⟩
  by_cases h10 : op = 10
  · subst h10
    rw [show cmpS 10 o = (2, bit (decide (o < 0)), e0, 0) from rfl]
    go_enter Tryz.func137, Tryz.ntmps137
    go_wp2_with (go_at_call 142; refine (C0.out _).mono ?_; rintro e _ ⟨rfl, rfl⟩)
    refine (truth_any _ _).mono ?_
    rintro e w1 ⟨rfl, hb⟩
    have m1 := (Box3.new w 0 0 e0 52).below hb (by simp)
    obtain ⟨⟨⟨q0, f0⟩, ⟨q1, f1⟩⟩, q2, f2⟩ := id m1
    have B2 : Below w.heap.size w (put3 w1 w.heap.size 2 (bit (decide (o < 0))) e0) := below_put3 (B1.trans (hb.mono B1.size)) (Nat.le_refl _) _ _ _
    have m2 := m1.put 2 (bit (decide (o < 0))) e0
    go_wp2
    change bodyPost Tryz.prog _ _ _ _ (put3 w1 w.heap.size 2 _ e0)
    generalize put3 w1 w.heap.size 2 (bit (decide (o < 0))) e0 = X at B2 m2 ⊢
    obtain ⟨⟨⟨p0, -⟩, ⟨p1, -⟩⟩, p2, -⟩ := m2
    exact bodyPost_ret (v := .tuple #[.agg #[.int .i64 2, .int .i64 (bit (decide (o < 0))), .string e0], .int .i64 0]) (by simp [results, Tryz.results137, go_sem, p0, p1, p2]) rfl ⟨rfl, B2⟩
  by_cases h11 : op = 11
  · subst h11
    rw [show cmpS 11 o = (2, bit (decide (o ≤ 0)), e0, 0) from rfl]
    go_enter Tryz.func137, Tryz.ntmps137
    go_wp2_with (go_at_call 142; refine (C0.out _).mono ?_; rintro e _ ⟨rfl, rfl⟩)
    refine (truth_any _ _).mono ?_
    rintro e w1 ⟨rfl, hb⟩
    have m1 := (Box3.new w 0 0 e0 52).below hb (by simp)
    obtain ⟨⟨⟨q0, f0⟩, ⟨q1, f1⟩⟩, q2, f2⟩ := id m1
    have B2 : Below w.heap.size w (put3 w1 w.heap.size 2 (bit (decide (o ≤ 0))) e0) := below_put3 (B1.trans (hb.mono B1.size)) (Nat.le_refl _) _ _ _
    have m2 := m1.put 2 (bit (decide (o ≤ 0))) e0
    go_wp2
    change bodyPost Tryz.prog _ _ _ _ (put3 w1 w.heap.size 2 _ e0)
    generalize put3 w1 w.heap.size 2 (bit (decide (o ≤ 0))) e0 = X at B2 m2 ⊢
    obtain ⟨⟨⟨p0, -⟩, ⟨p1, -⟩⟩, p2, -⟩ := m2
    exact bodyPost_ret (v := .tuple #[.agg #[.int .i64 2, .int .i64 (bit (decide (o ≤ 0))), .string e0], .int .i64 0]) (by simp [results, Tryz.results137, go_sem, p0, p1, p2]) rfl ⟨rfl, B2⟩
  by_cases h12 : op = 12
  · subst h12
    rw [show cmpS 12 o = (2, bit (decide (0 < o)), e0, 0) from rfl]
    go_enter Tryz.func137, Tryz.ntmps137
    go_wp2_with (go_at_call 142; refine (C0.out _).mono ?_; rintro e _ ⟨rfl, rfl⟩)
    refine (truth_any _ _).mono ?_
    rintro e w1 ⟨rfl, hb⟩
    have m1 := (Box3.new w 0 0 e0 52).below hb (by simp)
    obtain ⟨⟨⟨q0, f0⟩, ⟨q1, f1⟩⟩, q2, f2⟩ := id m1
    have B2 : Below w.heap.size w (put3 w1 w.heap.size 2 (bit (decide (0 < o))) e0) := below_put3 (B1.trans (hb.mono B1.size)) (Nat.le_refl _) _ _ _
    have m2 := m1.put 2 (bit (decide (0 < o))) e0
    go_wp2
    change bodyPost Tryz.prog _ _ _ _ (put3 w1 w.heap.size 2 _ e0)
    generalize put3 w1 w.heap.size 2 (bit (decide (0 < o))) e0 = X at B2 m2 ⊢
    obtain ⟨⟨⟨p0, -⟩, ⟨p1, -⟩⟩, p2, -⟩ := m2
    exact bodyPost_ret (v := .tuple #[.agg #[.int .i64 2, .int .i64 (bit (decide (0 < o))), .string e0], .int .i64 0]) (by simp [results, Tryz.results137, go_sem, p0, p1, p2]) rfl ⟨rfl, B2⟩
  by_cases h13 : op = 13
  · subst h13
    rw [show cmpS 13 o = (2, bit (decide (0 ≤ o)), e0, 0) from rfl]
    go_enter Tryz.func137, Tryz.ntmps137
    go_wp2_with (go_at_call 142; refine (C0.out _).mono ?_; rintro e _ ⟨rfl, rfl⟩)
    refine (truth_any _ _).mono ?_
    rintro e w1 ⟨rfl, hb⟩
    have m1 := (Box3.new w 0 0 e0 52).below hb (by simp)
    obtain ⟨⟨⟨q0, f0⟩, ⟨q1, f1⟩⟩, q2, f2⟩ := id m1
    have B2 : Below w.heap.size w (put3 w1 w.heap.size 2 (bit (decide (0 ≤ o))) e0) := below_put3 (B1.trans (hb.mono B1.size)) (Nat.le_refl _) _ _ _
    have m2 := m1.put 2 (bit (decide (0 ≤ o))) e0
    go_wp2
    change bodyPost Tryz.prog _ _ _ _ (put3 w1 w.heap.size 2 _ e0)
    generalize put3 w1 w.heap.size 2 (bit (decide (0 ≤ o))) e0 = X at B2 m2 ⊢
    obtain ⟨⟨⟨p0, -⟩, ⟨p1, -⟩⟩, p2, -⟩ := m2
    exact bodyPost_ret (v := .tuple #[.agg #[.int .i64 2, .int .i64 (bit (decide (0 ≤ o))), .string e0], .int .i64 0]) (by simp [results, Tryz.results137, go_sem, p0, p1, p2]) rfl ⟨rfl, B2⟩
  rw [show cmpS op o = stuckS by unfold cmpS; rw [if_neg h8, if_neg h9, if_neg h10, if_neg h11, if_neg h12, if_neg h13]]
  go_enter Tryz.func137, Tryz.ntmps137
  go_wp2_with (go_at_call 142; refine (C0.out _).mono ?_; rintro e _ ⟨rfl, rfl⟩)
  exact bodyPost_ret (v := .tuple #[.agg #[.int .i64 0, .int .i64 0, .string e0], .int .i64 7]) (by simp [results, Tryz.results137, go_sem]) rfl ⟨rfl, B1⟩
set_option maxRecDepth 100000 in
set_option maxHeartbeats 1000000 in
theorem comparedT_any (op : Int) (a b : ByteArray) (w : World) : Calls Tryz.prog 139 #[.int .i64 op, .string a, .string b] w fun e w' =>
    e = .returned (.tuple #[.agg #[.int .i64 (cmpS op (cmpT a b)).1, .int .i64 (cmpS op (cmpT a b)).2.1, .string (cmpS op (cmpT a b)).2.2.1], .int .i64 (cmpS op (cmpT a b)).2.2.2]) ∧ Below w.heap.size w w' := by
  have c0 : ∀ W : World, Calls Tryz.prog 143 #[.string a, .string b] W fun e w' => e = .returned (.int .i64 (cmpT a b)) ∧ w' = W := cmpT_any a b
  generalize cmpT a b = o at c0 ⊢
  have C0 : Hid (∀ W : World, Calls Tryz.prog 143 #[.string a, .string b] W fun e w' => e = .returned (.int .i64 o) ∧ w' = W) := c0
  clear c0
  have B1 : Below w.heap.size w (w.alloc (.cells #[.int .i64 0, .int .i64 0, .string e0] 52)) := (Below.refl _ w).alloc (Nat.le_refl _) _
  by_cases h8 : op = 8
  · subst h8
    rw [show cmpS 8 o = (2, bit (o == 0), e0, 0) from rfl]
    go_enter Tryz.func139, Tryz.ntmps139
    go_wp2_with (go_at_call 143; refine (C0.out _).mono ?_; rintro e _ ⟨rfl, rfl⟩)
    refine (truth_any _ _).mono ?_
    rintro e w1 ⟨rfl, hb⟩
    have m1 := (Box3.new w 0 0 e0 52).below hb (by simp)
    obtain ⟨⟨⟨q0, f0⟩, ⟨q1, f1⟩⟩, q2, f2⟩ := id m1
    have B2 : Below w.heap.size w (put3 w1 w.heap.size 2 (bit (o == 0)) e0) := below_put3 (B1.trans (hb.mono B1.size)) (Nat.le_refl _) _ _ _
    have m2 := m1.put 2 (bit (o == 0)) e0
    go_wp2
    change bodyPost Tryz.prog _ _ _ _ (put3 w1 w.heap.size 2 _ e0)
    generalize put3 w1 w.heap.size 2 (bit (o == 0)) e0 = X at B2 m2 ⊢
    obtain ⟨⟨⟨p0, -⟩, ⟨p1, -⟩⟩, p2, -⟩ := m2
    exact bodyPost_ret (v := .tuple #[.agg #[.int .i64 2, .int .i64 (bit (o == 0)), .string e0], .int .i64 0]) (by simp [results, Tryz.results139, go_sem, p0, p1, p2]) rfl ⟨rfl, B2⟩
  by_cases h9 : op = 9
  · subst h9
    rw [show cmpS 9 o = (2, bit (o != 0), e0, 0) from rfl]
    go_enter Tryz.func139, Tryz.ntmps139
    go_wp2_with (go_at_call 143; refine (C0.out _).mono ?_; rintro e _ ⟨rfl, rfl⟩)
    refine (truth_any _ _).mono ?_
    rintro e w1 ⟨rfl, hb⟩
    have m1 := (Box3.new w 0 0 e0 52).below hb (by simp)
    obtain ⟨⟨⟨q0, f0⟩, ⟨q1, f1⟩⟩, q2, f2⟩ := id m1
    have B2 : Below w.heap.size w (put3 w1 w.heap.size 2 (bit (o != 0)) e0) := below_put3 (B1.trans (hb.mono B1.size)) (Nat.le_refl _) _ _ _
    have m2 := m1.put 2 (bit (o != 0)) e0
    go_wp2
    change bodyPost Tryz.prog _ _ _ _ (put3 w1 w.heap.size 2 _ e0)
    generalize put3 w1 w.heap.size 2 (bit (o != 0)) e0 = X at B2 m2 ⊢
    obtain ⟨⟨⟨p0, -⟩, ⟨p1, -⟩⟩, p2, -⟩ := m2
    exact bodyPost_ret (v := .tuple #[.agg #[.int .i64 2, .int .i64 (bit (o != 0)), .string e0], .int .i64 0]) (by simp [results, Tryz.results139, go_sem, p0, p1, p2]) rfl ⟨rfl, B2⟩
  by_cases h10 : op = 10
  · subst h10
    rw [show cmpS 10 o = (2, bit (decide (o < 0)), e0, 0) from rfl]
    go_enter Tryz.func139, Tryz.ntmps139
    go_wp2_with (go_at_call 143; refine (C0.out _).mono ?_; rintro e _ ⟨rfl, rfl⟩)
    refine (truth_any _ _).mono ?_
    rintro e w1 ⟨rfl, hb⟩
    have m1 := (Box3.new w 0 0 e0 52).below hb (by simp)
    obtain ⟨⟨⟨q0, f0⟩, ⟨q1, f1⟩⟩, q2, f2⟩ := id m1
    have B2 : Below w.heap.size w (put3 w1 w.heap.size 2 (bit (decide (o < 0))) e0) := below_put3 (B1.trans (hb.mono B1.size)) (Nat.le_refl _) _ _ _
    have m2 := m1.put 2 (bit (decide (o < 0))) e0
    go_wp2
    change bodyPost Tryz.prog _ _ _ _ (put3 w1 w.heap.size 2 _ e0)
    generalize put3 w1 w.heap.size 2 (bit (decide (o < 0))) e0 = X at B2 m2 ⊢
    obtain ⟨⟨⟨p0, -⟩, ⟨p1, -⟩⟩, p2, -⟩ := m2
    exact bodyPost_ret (v := .tuple #[.agg #[.int .i64 2, .int .i64 (bit (decide (o < 0))), .string e0], .int .i64 0]) (by simp [results, Tryz.results139, go_sem, p0, p1, p2]) rfl ⟨rfl, B2⟩
  by_cases h11 : op = 11
  · subst h11
    rw [show cmpS 11 o = (2, bit (decide (o ≤ 0)), e0, 0) from rfl]
    go_enter Tryz.func139, Tryz.ntmps139
    go_wp2_with (go_at_call 143; refine (C0.out _).mono ?_; rintro e _ ⟨rfl, rfl⟩)
    refine (truth_any _ _).mono ?_
    rintro e w1 ⟨rfl, hb⟩
    have m1 := (Box3.new w 0 0 e0 52).below hb (by simp)
    obtain ⟨⟨⟨q0, f0⟩, ⟨q1, f1⟩⟩, q2, f2⟩ := id m1
    have B2 : Below w.heap.size w (put3 w1 w.heap.size 2 (bit (decide (o ≤ 0))) e0) := below_put3 (B1.trans (hb.mono B1.size)) (Nat.le_refl _) _ _ _
    have m2 := m1.put 2 (bit (decide (o ≤ 0))) e0
    go_wp2
    change bodyPost Tryz.prog _ _ _ _ (put3 w1 w.heap.size 2 _ e0)
    generalize put3 w1 w.heap.size 2 (bit (decide (o ≤ 0))) e0 = X at B2 m2 ⊢
    obtain ⟨⟨⟨p0, -⟩, ⟨p1, -⟩⟩, p2, -⟩ := m2
    exact bodyPost_ret (v := .tuple #[.agg #[.int .i64 2, .int .i64 (bit (decide (o ≤ 0))), .string e0], .int .i64 0]) (by simp [results, Tryz.results139, go_sem, p0, p1, p2]) rfl ⟨rfl, B2⟩
  by_cases h12 : op = 12
  · subst h12
    rw [show cmpS 12 o = (2, bit (decide (0 < o)), e0, 0) from rfl]
    go_enter Tryz.func139, Tryz.ntmps139
    go_wp2_with (go_at_call 143; refine (C0.out _).mono ?_; rintro e _ ⟨rfl, rfl⟩)
    refine (truth_any _ _).mono ?_
    rintro e w1 ⟨rfl, hb⟩
    have m1 := (Box3.new w 0 0 e0 52).below hb (by simp)
    obtain ⟨⟨⟨q0, f0⟩, ⟨q1, f1⟩⟩, q2, f2⟩ := id m1
    have B2 : Below w.heap.size w (put3 w1 w.heap.size 2 (bit (decide (0 < o))) e0) := below_put3 (B1.trans (hb.mono B1.size)) (Nat.le_refl _) _ _ _
    have m2 := m1.put 2 (bit (decide (0 < o))) e0
    go_wp2
    change bodyPost Tryz.prog _ _ _ _ (put3 w1 w.heap.size 2 _ e0)
    generalize put3 w1 w.heap.size 2 (bit (decide (0 < o))) e0 = X at B2 m2 ⊢
    obtain ⟨⟨⟨p0, -⟩, ⟨p1, -⟩⟩, p2, -⟩ := m2
    exact bodyPost_ret (v := .tuple #[.agg #[.int .i64 2, .int .i64 (bit (decide (0 < o))), .string e0], .int .i64 0]) (by simp [results, Tryz.results139, go_sem, p0, p1, p2]) rfl ⟨rfl, B2⟩
  by_cases h13 : op = 13
  · subst h13
    rw [show cmpS 13 o = (2, bit (decide (0 ≤ o)), e0, 0) from rfl]
    go_enter Tryz.func139, Tryz.ntmps139
    go_wp2_with (go_at_call 143; refine (C0.out _).mono ?_; rintro e _ ⟨rfl, rfl⟩)
    refine (truth_any _ _).mono ?_
    rintro e w1 ⟨rfl, hb⟩
    have m1 := (Box3.new w 0 0 e0 52).below hb (by simp)
    obtain ⟨⟨⟨q0, f0⟩, ⟨q1, f1⟩⟩, q2, f2⟩ := id m1
    have B2 : Below w.heap.size w (put3 w1 w.heap.size 2 (bit (decide (0 ≤ o))) e0) := below_put3 (B1.trans (hb.mono B1.size)) (Nat.le_refl _) _ _ _
    have m2 := m1.put 2 (bit (decide (0 ≤ o))) e0
    go_wp2
    change bodyPost Tryz.prog _ _ _ _ (put3 w1 w.heap.size 2 _ e0)
    generalize put3 w1 w.heap.size 2 (bit (decide (0 ≤ o))) e0 = X at B2 m2 ⊢
    obtain ⟨⟨⟨p0, -⟩, ⟨p1, -⟩⟩, p2, -⟩ := m2
    exact bodyPost_ret (v := .tuple #[.agg #[.int .i64 2, .int .i64 (bit (decide (0 ≤ o))), .string e0], .int .i64 0]) (by simp [results, Tryz.results139, go_sem, p0, p1, p2]) rfl ⟨rfl, B2⟩
  rw [show cmpS op o = stuckS by unfold cmpS; rw [if_neg h8, if_neg h9, if_neg h10, if_neg h11, if_neg h12, if_neg h13]]
  go_enter Tryz.func139, Tryz.ntmps139
  go_wp2_with (go_at_call 143; refine (C0.out _).mono ?_; rintro e _ ⟨rfl, rfl⟩)
  exact bodyPost_ret (v := .tuple #[.agg #[.int .i64 0, .int .i64 0, .string e0], .int .i64 7]) (by simp [results, Tryz.results139, go_sem]) rfl ⟨rfl, B1⟩
end Go.Proofs.YtahdkffijlfmnaaGreatDoor.Hp
