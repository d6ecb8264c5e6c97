import Derived.Sort.Walk0
import Derived.RowKit
import Derived.Lib.Strings
import Derived.Test.YtdcioemjmmhbhaaDoorProg
import Derived.WalkKit
import Derived.ProofKit
import Derived.BigCall
import Derived.BigGuard
import Derived.Below
import Derived.ChangeArms
import Derived.Deep.Cut
import Derived.Laws.Strings3
import Derived.Lib.Walk
import Derived.RangeFuncOwn
import Derived.Laws.Cover1
import Derived.RangeFuncRecord
import Derived.Deep.MidRow
import Derived.Lib.QuietBelow
import Derived.BigQuiet
namespace Go.Proofs.YtdcioemjmmhbhaaDoor
open Go.RowKit

abbrev e0 : ByteArray := ⟨#[]⟩
/-- May it be? -/
def okV (k n : Int) (s : ByteArray) : Bool :=
  if k = 0 then n == 0 && s.toList == [] else if k = 1 then s.toList == [] else if k = 2 then (n == 0 || n == 1) && s.toList == []
  else if k = 3 then n == 0 && decide (s.size ≤ 256) else if k = 4 then decide (0 ≤ n) && s.toList == [] else false

theorem e0_list : e0.toList = [] := by simp [e0, ByteArray.toList_eq]
theorem eq_e0 {s : ByteArray} (h : s.toList = []) : s = e0 := by
  rw [ByteArray.toList_eq] at h
  obtain ⟨⟨l⟩⟩ := s
  simp only at h
  subst h
  rfl
end Go.Proofs.YtdcioemjmmhbhaaDoor
namespace Go.Proofs.YtdcioemjmmhbhaaDoor
open Go.RowKit

theorem eqlV (k n : Int) (s : ByteArray) (k' n' : Int) (s' : ByteArray) : ∀ w : World,
    (binOp BinOp.eql 37 (.agg #[.int .i64 k, .int .i64 n, .string s]) (.agg #[.int .i64 k', .int .i64 n', .string s'])).run Tryd.prog w = .ok (.bool ((k == k' && n == n') && s.toList == s'.toList)) w := by
  intro w
  cases h1 : (k == k') with
  | false => simp [go_sem, h1]
  | true =>
    cases h2 : (n == n') with
    | false => simp [go_sem, h1, h2]
    | true =>
      cases h3 : (s.toList == s'.toList) with
      | false => simp [go_sem, h1, h2, h3]
      | true => simp [go_sem, h1, h2, h3]

set_option maxRecDepth 100000 in
set_option maxHeartbeats 1000000 in
theorem valid_any (k n : Int) (s : ByteArray) (w : World) (hs : s.size ≤ 9223372036854775807) : Calls Tryd.prog 60 #[.agg #[.int .i64 k, .int .i64 n, .string s]] w fun e w' => e = .returned (.bool (okV k n s)) ∧ Below w.heap.size w w' := by
  have B1 : Below w.heap.size w (w.alloc (.cells #[.int .i64 k, .int .i64 n, .string s] 37)) := (Below.refl _ w).alloc (Nat.le_refl _) _
  by_cases h0 : k = 0
  · subst h0
    have he := eqlV 0 n s 0 0 e0
    rw [e0_list] at he
    rw [show okV 0 n s = (n == 0 && s.toList == []) from rfl]
    go_enter Tryd.func60, Tryd.ntmps60
    go_wp2
    go_ret
    exact ⟨by simp, B1⟩
  by_cases h1 : k = 1
  · subst h1
    rw [show okV 1 n s = (s.toList == []) from rfl]
    go_enter Tryd.func60, Tryd.ntmps60
    go_wp2
    go_ret
    exact ⟨by simp, B1⟩
  by_cases h2 : k = 2
  · subst h2
    rw [show okV 2 n s = ((n == 0 || n == 1) && s.toList == []) from rfl]
    by_cases n0 : n = 0
    · subst n0
      go_enter Tryd.func60, Tryd.ntmps60
      go_wp2
      go_ret
      exact ⟨by simp, B1⟩
    · by_cases n1 : n = 1
      · subst n1
        go_enter Tryd.func60, Tryd.ntmps60
        go_wp2
        go_ret
        exact ⟨by simp, B1⟩
      · go_enter Tryd.func60, Tryd.ntmps60
        go_wp2
        go_ret
        exact ⟨by simp [n0, n1], B1⟩
  by_cases h3 : k = 3
  · subst h3
    rw [show okV 3 n s = (n == 0 && decide (s.size ≤ 256)) from rfl]
    by_cases n0 : n = 0
    · subst n0
      go_enter Tryd.func60, Tryd.ntmps60
      go_wp2
      go_ret
      exact ⟨by simp; omega, B1⟩
    · go_enter Tryd.func60, Tryd.ntmps60
      go_wp2
      go_ret
      exact ⟨by simp [n0], B1⟩
  by_cases h4 : k = 4
  · subst h4
    rw [show okV 4 n s = (decide (0 ≤ n) && s.toList == []) from rfl]
    by_cases n0 : 0 ≤ n
    · go_enter Tryd.func60, Tryd.ntmps60
      go_wp2
      go_ret
      exact ⟨by simp [n0], B1⟩
    · go_enter Tryd.func60, Tryd.ntmps60
      go_wp2
      go_ret
      exact ⟨by simp; omega, B1⟩
  have hk : okV k n s = false := by unfold okV; rw [if_neg h0, if_neg h1, if_neg h2, if_neg h3, if_neg h4]
  rw [hk]
  go_enter Tryd.func60, Tryd.ntmps60
  go_wp2
  go_ret
  exact ⟨rfl, B1⟩
end Go.Proofs.YtdcioemjmmhbhaaDoor
namespace Go.Proofs.YtdcioemjmmhbhaaDoor
open Go.RowKit

/-- A value in memory, that may be written. -/
def Box3 (W : World) (B : Nat) (k n : Int) (s : ByteArray) : Prop :=
  ((W.cell? ⟨B, 0, none⟩ = some (.int .i64 k) ∧ W.frozen? ⟨B, 0, none⟩ = false) ∧ (W.cell? ⟨B, 1, none⟩ = some (.int .i64 n) ∧ W.frozen? ⟨B, 1, none⟩ = false)) ∧ (W.cell? ⟨B, 2, none⟩ = some (.string s) ∧ W.frozen? ⟨B, 2, none⟩ = false)
theorem Box3.new (W : World) (k n : Int) (s : ByteArray) (t : TypeId) : Box3 (W.alloc (.cells #[.int .i64 k, .int .i64 n, .string s] t)) W.heap.size k n s := by
  have h := World.alloc_heap_new W (.cells #[.int .i64 k, .int .i64 n, .string s] t)
  refine ⟨⟨⟨?_, ?_⟩, ?_, ?_⟩, ?_, ?_⟩
  all_goals first | (unfold World.cell?; rw [h]; rfl) | (unfold World.frozen?; rw [h]; rfl)
theorem Box3.below {W W' : World} {B D : Nat} {k n : Int} {s : ByteArray} (h : Box3 W B k n s) (hb : Below D W W') (hB : B < D) : Box3 W' B k n s :=
  ⟨⟨⟨(hb.cell (p := ⟨B, 0, none⟩) hB).trans h.1.1.1, (hb.frozen (p := ⟨B, 0, none⟩) hB).trans h.1.1.2⟩, ⟨(hb.cell (p := ⟨B, 1, none⟩) hB).trans h.1.2.1, (hb.frozen (p := ⟨B, 1, none⟩) hB).trans h.1.2.2⟩⟩, (hb.cell (p := ⟨B, 2, none⟩) hB).trans h.2.1, (hb.frozen (p := ⟨B, 2, none⟩) hB).trans h.2.2⟩
theorem cell_alloc_l {W : World} {a : Addr} {v : Value} (o : Obj) (h : W.cell? a = some v) : (W.alloc o).cell? a = some v := cell_kept h (World.grownBy_alloc W o none) (fun r e => by cases e)
theorem frozen_alloc_l {W : World} {a : Addr} {v : Value} (o : Obj) (h : W.cell? a = some v) (hf : W.frozen? a = false) : (W.alloc o).frozen? a = false := (frozen_kept h (World.grownBy_alloc W o none) (fun r e => by cases e)).trans hf
theorem Box3.alloc {W : World} {B : Nat} {k n : Int} {s : ByteArray} (h : Box3 W B k n s) (o : Obj) : Box3 (W.alloc o) B k n s :=
  ⟨⟨⟨cell_alloc_l o h.1.1.1, frozen_alloc_l o h.1.1.1 h.1.1.2⟩, ⟨cell_alloc_l o h.1.2.1, frozen_alloc_l o h.1.2.1 h.1.2.2⟩⟩, cell_alloc_l o h.2.1, frozen_alloc_l o h.2.1 h.2.2⟩
/-- A value stored. -/
def put3 (W : World) (B : Nat) (k n : Int) (s : ByteArray) : World := ((W.setCell ⟨B, 0, none⟩ (.int .i64 k)).setCell ⟨B, 1, none⟩ (.int .i64 n)).setCell ⟨B, 2, none⟩ (.string s)
theorem Box3.put {W : World} {B : Nat} {k n : Int} {s : ByteArray} (h : Box3 W B k n s) (k' n' : Int) (s' : ByteArray) : Box3 (put3 W B k' n' s') B k' n' s' := by
  obtain ⟨⟨⟨h0, f0⟩, ⟨h1, f1⟩⟩, h2, f2⟩ := h
  have e1 : (W.setCell ⟨B, 0, none⟩ (.int .i64 k')).cell? ⟨B, 1, none⟩ = some (.int .i64 n) := by rw [World.cell?_setCell_other _ _ _ _ (by simp)]; exact h1
  have e2 : ((W.setCell ⟨B, 0, none⟩ (.int .i64 k')).setCell ⟨B, 1, none⟩ (.int .i64 n')).cell? ⟨B, 2, none⟩ = some (.string s) := by
    rw [World.cell?_setCell_other _ _ _ _ (by simp), World.cell?_setCell_other _ _ _ _ (by simp)]; exact h2
  unfold put3
  refine ⟨⟨⟨?_, ?_⟩, ?_, ?_⟩, ?_, ?_⟩
  · rw [World.cell?_setCell_other _ _ _ _ (by simp), World.cell?_setCell_other _ _ _ _ (by simp)]
    exact World.cell?_setCell_same' _ _ _ (by rw [h0]; rfl)
  · rw [World.frozen?_setCell, World.frozen?_setCell, World.frozen?_setCell]; exact f0
  · rw [World.cell?_setCell_other _ _ _ _ (by simp)]
    exact World.cell?_setCell_same' _ _ _ (by rw [e1]; rfl)
  · rw [World.frozen?_setCell, World.frozen?_setCell, World.frozen?_setCell]; exact f1
  · exact World.cell?_setCell_same' _ _ _ (by rw [e2]; rfl)
  · rw [World.frozen?_setCell, World.frozen?_setCell, World.frozen?_setCell]; exact f2
theorem below_put3 {W W0 : World} {B D : Nat} (h : Below D W0 W) (hB : D ≤ B) (k n : Int) (s : ByteArray) : Below D W0 (put3 W B k n s) :=
  ((h.setCell (p := ⟨B, 0, none⟩) hB _).setCell (p := ⟨B, 1, none⟩) hB _).setCell (p := ⟨B, 2, none⟩) hB _

end Go.Proofs.YtdcioemjmmhbhaaDoor
namespace Go.Proofs.YtdcioemjmmhbhaaDoor
open Go.RowKit

/-- Only what lies in F may have turned. -/
structure Kp (F : Nat → Prop) (w w' : World) : Prop where
  os : w'.os = w.os
  tape : w'.tape = w.tape
  output : w'.output = w.output
  size : w.heap.size ≤ w'.heap.size
  block : ∀ k, k < w.heap.size → ¬ F k → w'.heap[k]? = w.heap[k]?

theorem Kp.refl (F : Nat → Prop) (w : World) : Kp F w w := ⟨rfl, rfl, rfl, Nat.le_refl _, fun _ _ _ => rfl⟩
theorem Kp.of {F : Nat → Prop} {w w' : World} (h : Below w.heap.size w w') : Kp F w w' := ⟨h.os, h.tape, h.output, h.size, fun k hk _ => h.block k hk⟩
theorem Kp.trans {F G : Nat → Prop} {a b c : World} (h : Kp F a b) (k : Kp G b c) (hG : ∀ i, i < a.heap.size → G i → F i) : Kp F a c :=
  ⟨k.os.trans h.os, k.tape.trans h.tape, k.output.trans h.output, Nat.le_trans h.size k.size, fun i hi hf => (k.block i (Nat.lt_of_lt_of_le hi h.size) (fun q => hf (hG i hi q))).trans (h.block i hi hf)⟩
theorem Kp.next {F : Nat → Prop} {a b c : World} (h : Kp F a b) (k : Below b.heap.size b c) : Kp F a c := h.trans (Kp.of (F := F) k) (fun _ _ q => q)
theorem Kp.below {F : Nat → Prop} {a b : World} {B : Nat} (h : Kp F a b) (hF : ∀ k, F k → B ≤ k) (hB : B ≤ a.heap.size) : Below B a b := ⟨h.os, h.tape, h.output, h.size, fun k hk => h.block k (by omega) (fun q => by have := hF k q; omega)⟩
theorem Kp.setCell {F : Nat → Prop} {a w : World} (h : Kp F a w) {p : Addr} (hp : F p.block ∨ a.heap.size ≤ p.block) (u : Value) : Kp F a (w.setCell p u) :=
  ⟨h.os, h.tape, h.output, Nat.le_trans h.size (by simp [World.setCell]), fun k hk hf => (Below.heap_setCell _ _ _ _ (by rcases hp with q | q; exact fun e => hf (e ▸ q); omega)).trans (h.block k hk hf)⟩
theorem Kp.setCells {F : Nat → Prop} {a : World} {B : Nat} (hp : F B ∨ a.heap.size ≤ B) : ∀ (vs : List Value) (o : Nat) {w : World}, Kp F a w → Kp F a (w.setCells B o vs)
  | [], _, _, h => h
  | v :: r, o, _, h => Kp.setCells hp r (o + 1) (h.setCell (p := ⟨B, o, none⟩) hp v)
theorem Kp.alloc {F : Nat → Prop} {a w : World} (h : Kp F a w) (o : Obj) : Kp F a (w.alloc o) := h.next ((Below.refl _ _).alloc (Nat.le_refl _) _)
theorem Kp.grown {F : Nat → Prop} {a w w' : World} {row : Option Nat} (h : Kp F a w) (hg : w.grownBy w' row) (hr : ∀ k, row = some k → F k ∨ a.heap.size ≤ k) : Kp F a w' :=
  ⟨hg.os.trans h.os, hg.tape.trans h.tape, hg.output.trans h.output, Nat.le_trans h.size hg.size, fun k hk hf => (hg.block k (Nat.lt_of_lt_of_le hk h.size) (fun e => by rcases hr k e.symm with q | q; exact hf q; omega)).trans (h.block k hk hf)⟩

/-- A block of cells of one kind, that may be written. -/
def Blk (w : World) (g : Nat) (t : TypeId) (n : Nat) : Prop := ∃ cur, w.heap[g]? = some (.cells cur t (0, 0)) ∧ n ≤ cur.size
theorem Blk.lt {w : World} {g : Nat} {t : TypeId} {n : Nat} (h : Blk w g t n) : g < w.heap.size := by obtain ⟨_, h, _⟩ := h; exact (Array.getElem?_eq_some_iff.1 h).1
theorem Blk.same {w w' : World} {g : Nat} {t : TypeId} {n : Nat} (h : Blk w g t n) (e : w'.heap[g]? = w.heap[g]?) : Blk w' g t n := by obtain ⟨c, h, k⟩ := h; exact ⟨c, e.trans h, k⟩
theorem Blk.le {w : World} {g : Nat} {t : TypeId} {n m : Nat} (h : Blk w g t n) (e : m ≤ n) : Blk w g t m := by obtain ⟨c, h, k⟩ := h; exact ⟨c, h, Nat.le_trans e k⟩
theorem Blk.new (w : World) (c : Array Value) (t : TypeId) {n : Nat} (e : n ≤ c.size) : Blk (w.alloc (.cells c t)) w.heap.size t n := ⟨c, World.alloc_heap_new w _, e⟩
theorem Blk.ne {w : World} {g g' : Nat} {t t' : TypeId} {n n' : Nat} (h : Blk w g t n) (k : Blk w g' t' n') (e : t ≠ t') : g ≠ g' := by
  rintro rfl
  obtain ⟨c, h, _⟩ := h
  obtain ⟨c', k, _⟩ := k
  rw [h] at k
  cases k
  exact e rfl
theorem Blk.setCell {w : World} {g : Nat} {t : TypeId} {n : Nat} (h : Blk w g t n) (a : Addr) (v : Value) : Blk (w.setCell a v) g t n := by
  obtain ⟨c, h, k⟩ := h
  unfold Blk World.setCell
  simp only [Array.getElem?_modify]
  split
  · rw [h]
    refine ⟨_, rfl, ?_⟩
    split <;> simpa using k
  · exact ⟨c, h, k⟩
theorem Blk.setCells {g : Nat} {t : TypeId} {n : Nat} (B : Nat) : ∀ (vs : List Value) (o : Nat) {w : World}, Blk w g t n → Blk (w.setCells B o vs) g t n
  | [], _, _, h => h
  | v :: r, o, _, h => Blk.setCells B r (o + 1) (h.setCell ⟨B, o, none⟩ v)
theorem Blk.next {w w' : World} {g : Nat} {t : TypeId} {n : Nat} (h : Blk w g t n) (k : Below w.heap.size w w') : Blk w' g t n := h.same (k.block g h.lt)
theorem Blk.alloc {w : World} {g : Nat} {t : TypeId} {n : Nat} (h : Blk w g t n) (o : Obj) : Blk (w.alloc o) g t n := h.next ((Below.refl _ _).alloc (Nat.le_refl _) _)
theorem Blk.there {w : World} {g : Nat} {t : TypeId} {n : Nat} (h : Blk w g t n) (o m : Nat) (e : o + m ≤ n) : w.there g o m := fun j hj => by
  obtain ⟨c, h, k⟩ := h
  refine ⟨?_, ?_⟩
  · simp only [World.cell?, h]
    simp [show o + j < c.size by omega]
  · simp only [World.frozen?, h]
    simp
theorem Blk.unfrozen {w : World} {g : Nat} {t : TypeId} {n : Nat} (h : Blk w g t n) (o : Nat) : w.frozen? ⟨g, o, none⟩ = false := by
  obtain ⟨c, h, k⟩ := h
  simp only [World.frozen?, h]
  simp

theorem own_same {w w' : World} {B : Nat} {e : TypeId} {sz : Nat} {v : Value} {n : Nat} {xs : List Value} (h : w.ownsRow B e sz v n xs) (hk : ∀ g, v.ownBlock = some g → w'.heap[g]? = w.heap[g]?) : w'.ownsRow B e sz v n xs := by
  refine ⟨h.1, ?_⟩
  rcases h.2 with q | ⟨g, cap, cur, rfl, h1, h2, h3⟩
  · exact .inl q
  · exact .inr ⟨g, cap, cur, rfl, h1, (hk g rfl).trans h2, h3⟩
theorem own_blk {w : World} {B : Nat} {e : TypeId} {sz : Nat} {v : Value} {n : Nat} {xs : List Value} (h : w.ownsRow B e sz v n xs) : ∀ g, v.ownBlock = some g → Blk w g e (n * sz) := fun g hg => by
  rcases h.2 with ⟨rfl, _⟩ | ⟨g, cap, cur, rfl, h1, h2, h3, _, h4, _⟩
  · cases hg
  · cases hg
    exact ⟨cur, h2, by rw [h4]; exact Nat.mul_le_mul_right _ h3⟩
theorem own_ne {w : World} {B : Nat} {e : TypeId} {sz : Nat} {v : Value} {n : Nat} {xs : List Value} (h : w.ownsRow B e sz v n xs) {b : Nat} {t : TypeId} {m : Nat} (k : Blk w b t m) (ht : t ≠ e) : v.ownBlock ≠ some b := fun q => (own_blk h b q).ne k (Ne.symm ht) rfl
theorem own_slice {w : World} {B : Nat} {e : TypeId} {sz : Nat} {v : Value} {n : Nat} {xs : List Value} (h : w.ownsRow B e sz v n xs) : ∃ q cap, v = .slice q n cap ∧ n ≤ cap ∧ (0 < n → ∃ g, q = some ⟨g, 0, none⟩ ∧ w.rangeAt g 0 xs) := by
  rcases h.2 with ⟨rfl, rfl⟩ | ⟨g, cap, cur, rfl, h1, h2, h3, _, h4, h5⟩
  · exact ⟨none, 0, rfl, Nat.le_refl _, fun q => by omega⟩
  · refine ⟨_, cap, rfl, h3, fun _ => ⟨g, rfl, fun j v hv => ?_⟩⟩
    rw [Nat.zero_add]
    simp only [World.cell?, h2]
    rw [← h5, List.getElem?_take] at hv
    split at hv
    · simpa using hv
    · cases hv
theorem own_next {w w' : World} {B : Nat} {e : TypeId} {sz : Nat} {v : Value} {n : Nat} {xs : List Value} (h : w.ownsRow B e sz v n xs) (k : Below w.heap.size w w') : w'.ownsRow B e sz v n xs := own_same h fun g hg => k.block g (own_blk h g hg).lt
theorem range_same {w w' : World} {g o : Nat} {xs : List Value} (h : w.rangeAt g o xs) (e : w'.heap[g]? = w.heap[g]?) : w'.rangeAt g o xs := fun j v hv => (World.cell?_of_block (w := w) (w' := w') (a := ⟨g, o + j, none⟩) e).trans (h j v hv)
theorem set_heap {w : World} {a : Addr} {v : Value} {k : Nat} (h : k ≠ a.block) : (w.setCell a v).heap[k]? = w.heap[k]? := Below.heap_setCell _ _ _ _ h
theorem sets_heap {B k : Nat} (h : k ≠ B) : ∀ (vs : List Value) (o : Nat) (w : World), (w.setCells B o vs).heap[k]? = w.heap[k]?
  | [], _, _ => rfl
  | _ :: r, o, _ => (sets_heap h r (o + 1) _).trans (set_heap (a := ⟨B, o, none⟩) h)
theorem set_size (w : World) (a : Addr) (v : Value) : (w.setCell a v).heap.size = w.heap.size := by simp [World.setCell]
theorem sets_size (B : Nat) : ∀ (vs : List Value) (o : Nat) (w : World), (w.setCells B o vs).heap.size = w.heap.size
  | [], _, _ => rfl
  | _ :: r, o, _ => (sets_size B r (o + 1) _).trans (set_size _ _ _)
end Go.Proofs.YtdcioemjmmhbhaaDoor
