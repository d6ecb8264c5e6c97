import Derived.Test.YtdcioemjmmhbhaaDoorApp1
import Derived.Test.YtdcioemjmmhbhaaDoorFrM
import Derived.Test.YtdcioemjmmhbhaaDoorPutM
namespace Go.Proofs.YtdcioemjmmhbhaaDoor
open Go.RowKit

/-- What the reference keeps: an array's kind and length; a put. -/
abbrev Mr := Int × Nat
abbrev Dn := Nat × Nat × V
def mc (m : Mr) : List Value := [.int .i64 m.1, .int .i64 (m.2 : Int)]
def dc (d : Dn) : List Value := [.int .i64 (d.1 : Int), .int .i64 (d.2.1 : Int), .int .i64 d.2.2.1, .int .i64 d.2.2.2.1, .string d.2.2.2.2]
def usedM : List Mr → Nat
  | [] => 0
  | m :: l => m.2 + 1 + usedM l
theorem usedM_app (a b : List Mr) : usedM (a ++ b) = usedM a + usedM b := by
  induction a with
  | nil => simp [usedM]
  | cons x a ih => rw [List.cons_append, usedM, ih, usedM]; omega
theorem usedM_take (l : List Mr) (k : Nat) (hk : k < l.length) : usedM (l.take (k + 1)) = usedM (l.take k) + l[k].2 + 1 := by
  rw [List.take_succ_eq_append_getElem hk, usedM_app]
  simp [usedM]
  omega
theorem usedM_le (l : List Mr) (k : Nat) : usedM (l.take k) ≤ usedM l := by
  have := usedM_app (l.take k) (l.drop k)
  rw [List.take_append_drop] at this
  omega
theorem usedM_ge (l : List Mr) : l.length ≤ usedM l := by
  induction l with
  | nil => simp [usedM]
  | cons a A ih => rw [usedM, List.length_cons]; omega
theorem usedM_mem {l : List Mr} {x : Mr} (h : x ∈ l) : x.2 + 1 ≤ usedM l := by
  induction l with
  | nil => cases h
  | cons a A ih =>
    rw [usedM]
    rcases List.mem_cons.1 h with rfl | h
    · omega
    · have := ih h; omega

/-- What was put there last, of the first k puts. -/
def elemP (Ps : List Dn) (n i : Nat) (z : V) : Nat → V
  | 0 => z
  | k + 1 => if (Ps.getD k (0, 0, zv)).1 = n ∧ (Ps.getD k (0, 0, zv)).2.1 = i then (Ps.getD k (0, 0, zv)).2.2 else elemP Ps n i z k
theorem elemP_app (Ps Q : List Dn) (n i : Nat) (z : V) : ∀ k, k ≤ Ps.length → elemP (Ps ++ Q) n i z k = elemP Ps n i z k
  | 0, _ => rfl
  | k + 1, h => by
    have e : (Ps ++ Q).getD k (0, 0, zv) = Ps.getD k (0, 0, zv) := by
      rw [List.getD_eq_getElem?_getD, List.getD_eq_getElem?_getD, List.getElem?_append_left (by omega)]
    unfold elemP
    rw [e, elemP_app Ps Q n i z k (by omega)]
theorem elemP_last (Ps : List Dn) (d : Dn) (n i : Nat) (z : V) : elemP (Ps ++ [d]) n i z (Ps ++ [d]).length = if d.1 = n ∧ d.2.1 = i then d.2.2 else elemP Ps n i z Ps.length := by
  rw [List.length_append]
  have e : (Ps ++ [d]).getD Ps.length (0, 0, zv) = d := by rw [List.getD_eq_getElem?_getD, List.getElem?_append_right (Nat.le_refl _)]; simp
  have e2 : elemP (Ps ++ [d]) n i z (Ps.length + 1) = if ((Ps ++ [d]).getD Ps.length (0, 0, zv)).1 = n ∧ ((Ps ++ [d]).getD Ps.length (0, 0, zv)).2.1 = i then ((Ps ++ [d]).getD Ps.length (0, 0, zv)).2.2 else elemP (Ps ++ [d]) n i z Ps.length := rfl
  rw [e, elemP_app _ _ _ _ _ _ (Nat.le_refl _)] at e2
  exact e2
theorem elemP_none (Ps : List Dn) (n i : Nat) (z : V) : ∀ k, k ≤ Ps.length → (∀ d ∈ Ps, d.1 ≠ n) → elemP Ps n i z k = z
  | 0, _, _ => rfl
  | k + 1, h, hn => by
    unfold elemP
    rw [if_neg, elemP_none Ps n i z k (by omega) hn]
    rintro ⟨q, _⟩
    refine hn (Ps.getD k (0, 0, zv)) ?_ q
    rw [List.getD_eq_getElem?_getD, List.getElem?_eq_getElem (by omega)]
    exact List.getElem_mem _

/-- The reference's heap says the same as A. -/
structure RelA (Md : List Mr) (Ps : List Dn) (A : Hp) : Prop where
  len : A.length = Md.length
  at' : ∀ k (a : Int × List V) (m : Mr), A[k]? = some a → Md[k]? = some m → m.1 = a.1 ∧ m.2 = a.2.length ∧ ∀ j (hj : j < a.2.length), a.2[j] = elemP Ps (k + 1) j (m.1, 0, e0) Ps.length
  rng : ∀ d ∈ Ps, d.1 ≤ Md.length
theorem RelA.used : ∀ {Md : List Mr} {Ps : List Dn} {A : Hp}, RelA Md Ps A → usedM Md = usedS A := fun {Md Ps A} h => by
  have key : ∀ (Md : List Mr) (A : Hp), A.length = Md.length → (∀ (k : Nat) (a : Int × List V) (m : Mr), A[k]? = some a → Md[k]? = some m → m.2 = a.2.length) → usedM Md = usedS A := fun Md => by
    induction Md with
    | nil => intro A hl _; have : A = [] := List.length_eq_zero_iff.1 hl; subst this; rfl
    | cons m Md ih =>
      intro A hl hk
      cases A with
      | nil => simp at hl
      | cons a A =>
        rw [usedM, usedS, ih A (by simpa using hl) (fun k x y h1 h2 => hk (k + 1) x y (by simpa using h1) (by simpa using h2)), hk 0 a m rfl rfl]
  exact key Md A h.len fun k a m h1 h2 => (h.at' k a m h1 h2).2.1
theorem RelA.make {Md : List Mr} {Ps : List Dn} {A : Hp} (h : RelA Md Ps A) (kind : Int) (n : Nat) : RelA (Md ++ [(kind, n)]) Ps (A ++ [(kind, List.replicate n (kind, 0, e0))]) := by
  refine ⟨by simp [h.len], fun k a m h1 h2 => ?_, fun d hd => by have := h.rng d hd; rw [List.length_append]; omega⟩
  by_cases hk : k < A.length
  · rw [List.getElem?_append_left hk] at h1
    rw [List.getElem?_append_left (by rw [← h.len]; exact hk)] at h2
    exact h.at' k a m h1 h2
  · have hk2 : k = A.length := by
      have := (List.getElem?_eq_some_iff.1 h1).1
      rw [List.length_append] at this
      simp at this
      omega
    subst hk2
    rw [List.getElem?_append_right (Nat.le_refl _)] at h1
    rw [h.len, List.getElem?_append_right (Nat.le_refl _)] at h2
    simp only [Nat.sub_self, List.getElem?_cons_zero, Option.some.injEq] at h1 h2
    subst h1 h2
    refine ⟨rfl, by simp, fun j hj => ?_⟩
    rw [List.getElem_replicate, elemP_none _ _ _ _ _ (Nat.le_refl _) (fun d hd => by have := h.rng d hd; rw [h.len]; omega)]
theorem RelA.put {Md : List Mr} {Ps : List Dn} {A : Hp} (h : RelA Md Ps A) (n i : Nat) (x : V) (hn : 1 ≤ n ∧ n ≤ Md.length) : RelA Md (Ps ++ [(n, i, x)]) (A.modify (n - 1) fun a => (a.1, a.2.set i x)) := by
  refine ⟨by rw [List.length_modify]; exact h.len, fun k a m h1 h2 => ?_, fun d hd => ?_⟩
  · rw [List.getElem?_modify] at h1
    by_cases e : n - 1 = k
    · subst e
      cases hb : A[n - 1]? with
      | none => rw [hb] at h1; simp at h1
      | some b =>
        rw [hb] at h1
        have h1' : (b.1, b.2.set i x) = a := by simpa using h1
        subst h1'
        obtain ⟨q1, q2, q3⟩ := h.at' (n - 1) b m hb h2
        refine ⟨q1, by rw [List.length_set]; exact q2, fun j hj => ?_⟩
        have hj' : j < b.2.length := by rw [List.length_set] at hj; exact hj
        rw [elemP_last]
        simp only [List.getElem_set]
        have hn1 : n - 1 + 1 = n := by omega
        by_cases ej : i = j
        · rw [if_pos ej, if_pos ⟨hn1.symm, ej⟩]
        · rw [if_neg ej, if_neg (fun q => ej q.2), q3 j hj']
    · have h1' : A[k]? = some a := by
        cases hb : A[k]? with
        | none => rw [hb] at h1; simp at h1
        | some b => rw [hb] at h1; simpa [e] using h1
      obtain ⟨q1, q2, q3⟩ := h.at' k a m h1' h2
      refine ⟨q1, q2, fun j hj => ?_⟩
      rw [elemP_last, if_neg (fun q => e (by have := q.1; simp only at this; omega)), q3 j hj]
  · rcases List.mem_append.1 hd with q | q
    · exact h.rng d q
    · rw [List.mem_singleton.1 q]
      exact hn.2

/-- The reference's heap in memory. -/
structure RHeap (w : World) (p lim : Nat) (Md : List Mr) (Ps : List Dn) (mv pv : Value) (F : Nat → Prop) : Prop where
  blk : Blk w p 68 3
  c0 : w.cell? ⟨p, 0, none⟩ = some (.int .i64 (lim : Int))
  c1 : w.cell? ⟨p, 1, none⟩ = some mv
  c2 : w.cell? ⟨p, 2, none⟩ = some pv
  md : w.ownsRow 0 108 2 mv Md.length (Md.flatMap mc)
  ps : w.ownsRow 0 106 5 pv Ps.length (Ps.flatMap dc)
  fp : F p
  fm : ∀ g, mv.ownBlock = some g → F g
  fs : ∀ g, pv.ownBlock = some g → F g
  flt : ∀ g, F g → g < w.heap.size
  top : lim ≤ 100000
  le : usedM Md ≤ lim
  ok : ∀ m ∈ Md, 1 ≤ m.1 ∧ m.1 ≤ 4
theorem RHeap.same {w w' : World} {p lim : Nat} {Md : List Mr} {Ps : List Dn} {mv pv : Value} {F : Nat → Prop} (h : RHeap w p lim Md Ps mv pv F) (hk : ∀ b, F b → w'.heap[b]? = w.heap[b]?) (hs : w.heap.size ≤ w'.heap.size) : RHeap w' p lim Md Ps mv pv F where
  blk := h.blk.same (hk p h.fp)
  c0 := (World.cell?_of_block (w := w) (a := ⟨p, 0, none⟩) (hk p h.fp)).trans h.c0
  c1 := (World.cell?_of_block (w := w) (a := ⟨p, 1, none⟩) (hk p h.fp)).trans h.c1
  c2 := (World.cell?_of_block (w := w) (a := ⟨p, 2, none⟩) (hk p h.fp)).trans h.c2
  md := own_same h.md fun g hg => hk g (h.fm g hg)
  ps := own_same h.ps fun g hg => hk g (h.fs g hg)
  fp := h.fp
  fm := h.fm
  fs := h.fs
  flt g hg := Nat.lt_of_lt_of_le (h.flt g hg) hs
  top := h.top
  le := h.le
  ok := h.ok
theorem RHeap.next {w w' : World} {p lim : Nat} {Md : List Mr} {Ps : List Dn} {mv pv : Value} {F : Nat → Prop} (h : RHeap w p lim Md Ps mv pv F) (k : Below w.heap.size w w') : RHeap w' p lim Md Ps mv pv F := h.same (fun b hb => k.block b (h.flt b hb)) k.size
theorem RHeap.len {w : World} {p lim : Nat} {Md : List Mr} {Ps : List Dn} {mv pv : Value} {F : Nat → Prop} (h : RHeap w p lim Md Ps mv pv F) : Md.length ≤ 100000 ∧ ∀ m ∈ Md, m.2 ≤ 100000 := by
  have h1 := usedM_ge Md
  have h2 := h.le
  have h3 := h.top
  exact ⟨by omega, fun m hm => by have := usedM_mem hm; omega⟩
/-- An array's row in the reference's list. -/
theorem RHeap.mdAt {w : World} {p lim : Nat} {Md : List Mr} {Ps : List Dn} {mv pv : Value} {F : Nat → Prop} (h : RHeap w p lim Md Ps mv pv F) : ∃ q c, mv = .slice q Md.length c ∧ ∀ k (hk : k < Md.length), ∃ g, q = some ⟨g, 0, none⟩ ∧ w.cell? ⟨g, k * 2, none⟩ = some (.int .i64 Md[k].1) ∧ w.cell? ⟨g, k * 2 + 1, none⟩ = some (.int .i64 (Md[k].2 : Int)) := by
  obtain ⟨q, c, e, _, hr⟩ := own_slice h.md
  refine ⟨q, c, e, fun k hk => ?_⟩
  obtain ⟨g, rfl, hg⟩ := hr (by omega)
  have e0' := hg (k * 2 + 0) _ ((flat_at mc 2 (fun _ => rfl) Md k 0 hk (by decide)).trans rfl)
  have e1' := hg (k * 2 + 1) _ ((flat_at mc 2 (fun _ => rfl) Md k 1 hk (by decide)).trans rfl)
  rw [Nat.zero_add] at e0' e1'
  rw [Nat.add_zero] at e0'
  exact ⟨g, rfl, e0', e1'⟩
theorem RHeap.psAt {w : World} {p lim : Nat} {Md : List Mr} {Ps : List Dn} {mv pv : Value} {F : Nat → Prop} (h : RHeap w p lim Md Ps mv pv F) : ∃ q c, pv = .slice q Ps.length c ∧ ∀ k (hk : k < Ps.length), ∃ g, q = some ⟨g, 0, none⟩ ∧ w.cell? ⟨g, k * 5, none⟩ = some (.int .i64 (Ps[k].1 : Int)) ∧ w.cell? ⟨g, k * 5 + 1, none⟩ = some (.int .i64 (Ps[k].2.1 : Int)) ∧ w.cell? ⟨g, k * 5 + 2, none⟩ = some (.int .i64 Ps[k].2.2.1) ∧ w.cell? ⟨g, k * 5 + 3, none⟩ = some (.int .i64 Ps[k].2.2.2.1) ∧ w.cell? ⟨g, k * 5 + 4, none⟩ = some (.string Ps[k].2.2.2.2) := by
  obtain ⟨q, c, e, _, hr⟩ := own_slice h.ps
  refine ⟨q, c, e, fun k hk => ?_⟩
  obtain ⟨g, rfl, hg⟩ := hr (by omega)
  have key : ∀ j v, (dc Ps[k])[j]? = some v → w.cell? ⟨g, k * 5 + j, none⟩ = some v := fun j v hv => by
    have hj : j < 5 := (List.getElem?_eq_some_iff.1 hv).1
    have := hg (k * 5 + j) v ((flat_at dc 5 (fun _ => rfl) Ps k j hk hj).trans hv)
    rw [Nat.zero_add] at this
    exact this
  exact ⟨g, rfl, key 0 _ rfl, key 1 _ rfl, key 2 _ rfl, key 3 _ rfl, key 4 _ rfl⟩
/-- A heap of the reference that says the same as A. -/
def RefOf (w : World) (p lim : Nat) (A : Hp) (N : Nat) (F : Nat → Prop) : Prop := ∃ Md Ps mv pv, RHeap w p lim Md Ps mv pv F ∧ RelA Md Ps A ∧ Ps.length ≤ N
theorem RefOf.same {w w' : World} {p lim : Nat} {A : Hp} {N : Nat} {F : Nat → Prop} (h : RefOf w p lim A N F) (hk : ∀ b, F b → w'.heap[b]? = w.heap[b]?) (hs : w.heap.size ≤ w'.heap.size) : RefOf w' p lim A N F := by
  obtain ⟨Md, Ps, mv, pv, h1, h2, h3⟩ := h
  exact ⟨Md, Ps, mv, pv, h1.same hk hs, h2, h3⟩
theorem RefOf.flt {w : World} {p lim : Nat} {A : Hp} {N : Nat} {F : Nat → Prop} (h : RefOf w p lim A N F) : ∀ g, F g → g < w.heap.size := by
  obtain ⟨Md, Ps, mv, pv, h1, h2, h3⟩ := h
  exact h1.flt
theorem RefOf.next {w w' : World} {p lim : Nat} {A : Hp} {N : Nat} {F : Nat → Prop} (h : RefOf w p lim A N F) (k : Below w.heap.size w w') : RefOf w' p lim A N F := h.same (fun b hb => k.block b (h.flt b hb)) k.size
theorem RefOf.kept {w w' : World} {p lim : Nat} {A : Hp} {N : Nat} {F G : Nat → Prop} (h : RefOf w p lim A N F) (k : Kp G w w') (hd : ∀ b, F b → ¬ G b) : RefOf w' p lim A N F := h.same (fun b hb => k.block b (h.flt b hb) (hd b hb)) k.size
theorem RefOf.more {w : World} {p lim : Nat} {A : Hp} {N M : Nat} {F : Nat → Prop} (h : RefOf w p lim A N F) (k : N ≤ M) : RefOf w p lim A M F := by
  obtain ⟨Md, Ps, mv, pv, h1, h2, h3⟩ := h
  exact ⟨Md, Ps, mv, pv, h1, h2, Nat.le_trans h3 k⟩

set_option maxHeartbeats 1000000 in
set_option maxRecDepth 100000 in
theorem rused_any {w : World} {p lim : Nat} {Md : List Mr} {Ps : List Dn} {mv pv : Value} {F : Nat → Prop} (h : RHeap w p lim Md Ps mv pv F) :
    Calls Tryd.prog 25 #[.pointer (some ⟨p, 0, none⟩)] w fun e w' => e = .returned (.int .i64 ((usedM Md : Nat) : Int)) ∧ w' = w := by
  obtain ⟨q, c, rfl, hat⟩ := h.mdAt
  have c1 := h.c1
  have hle := h.le
  have htop := h.top
  have hlen := h.len
  clear h
  go_enter Tryd.func25, Tryd.ntmps25
  go_wp2_with fail
  go_loopw [3, 4] (fun v3 v4 wr => ∃ k : Nat, k ≤ Md.length ∧ v3 = .int .i64 ((usedM (Md.take k) : Nat) : Int) ∧ v4 = .int .i64 (k : Int) ∧ wr = w) (fun _ v _ => Md.length - (intOf v).toNat)
  case atStart => exact ⟨0, Nat.zero_le _, rfl, rfl, rfl⟩
  case round =>
    obtain ⟨k, hk, rfl, rfl, rfl⟩ := hrel
    by_cases hlt : k < Md.length
    · obtain ⟨g, rfl, e0', e1'⟩ := hat k hlt
      have hu := usedM_take Md k hlt
      have hu2 := usedM_le Md (k + 1)
      have hm := hlen.2 _ (List.getElem_mem hlt)
      generalize Md[k] = m at e0' e1' hu hm
      have k0 : (0 : Int) ≤ (k : Int) := by omega
      have k1 : (k : Int) < (Md.length : Int) := by omega
      have i1 : IntKind.i64.wrap (((usedM (Md.take k) : Nat) : Int) + (m.2 : Int)) = ((usedM (Md.take k) : Nat) : Int) + (m.2 : Int) := by rw [IntKind.wrap_i64]; omega
      have i2 : IntKind.i64.wrap (((usedM (Md.take k) : Nat) : Int) + (m.2 : Int) + 1) = ((usedM (Md.take (k + 1)) : Nat) : Int) := by rw [IntKind.wrap_i64]; omega
      have i3 : IntKind.i64.wrap ((k : Int) + 1) = (k : Int) + 1 := by rw [IntKind.wrap_i64]; omega
      clear hu hu2 hat
      obtain ⟨U, hU⟩ : ∃ U, usedM (Md.take (k + 1)) = U := ⟨_, rfl⟩
      have HU : Hid (usedM (Md.take (k + 1)) = U) := hU
      rw [hU] at i2
      clear hU
      go_wp2
      exact ⟨⟨k + 1, by omega, by rw [HU.out], by go_num, by first | rfl | trivial⟩, by simp [intOf]; omega⟩
    · obtain rfl : k = Md.length := by omega
      rw [List.take_length]
      go_wp2
      go_ret
      exact ⟨rfl, rfl⟩
end Go.Proofs.YtdcioemjmmhbhaaDoor
