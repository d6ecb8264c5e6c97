import Derived.Test.YtdcioemjmmhbhaaDoorMake
import Derived.WalkMore
import Derived.OrdersHeld
import Derived.Deep.RegionLaw
namespace Go.Proofs.YtdcioemjmmhbhaaDoor
open Go.RowKit

/-- The statement's own book of a heap. -/
structure BookAt (w : World) (m p : Nat) (A : Hp) (Kd : List Int) (u : Nat) (kv lv : Value) (Ls : List Value) (G : Nat → Prop) : Prop where
  blk : Blk w m 34 4
  c0 : w.cell? ⟨m, 0, none⟩ = some (.pointer (some ⟨p, 0, none⟩))
  c1 : w.cell? ⟨m, 1, none⟩ = some kv
  c2 : w.cell? ⟨m, 2, none⟩ = some lv
  c3 : w.cell? ⟨m, 3, none⟩ = some (.int .i64 (u : Int))
  ks : w.ownsRow 0 30 1 kv (Kd.length + 1) (.int .i64 0 :: Kd.map fun k => .int .i64 k)
  ls : w.ownsRow 0 59 1 lv (A.length + 1) (.slice none 0 0 :: Ls)
  len : Ls.length = A.length
  el : ∀ (j : Nat) (v : Value) (a : Int × List V), Ls[j]? = some v → A[j]? = some a → w.ownsRow 0 37 3 v a.2.length (vcs a.2)
  dis : Ls.Pairwise fun u v => ∀ g, u.ownBlock = some g → v.ownBlock ≠ some g
  gm : G m
  gk : ∀ g, kv.ownBlock = some g → G g
  gl : ∀ g, lv.ownBlock = some g → G g
  ge : ∀ v ∈ Ls, ∀ g, v.ownBlock = some g → G g
  glt : ∀ g, G g → g < w.heap.size
theorem BookAt.same {w w' : World} {m p : Nat} {A : Hp} {Kd : List Int} {u : Nat} {kv lv : Value} {Ls : List Value} {G : Nat → Prop} (h : BookAt w m p A Kd u kv lv Ls G) (hk : ∀ b, G b → w'.heap[b]? = w.heap[b]?) (hs : w.heap.size ≤ w'.heap.size) : BookAt w' m p A Kd u kv lv Ls G where
  blk := h.blk.same (hk m h.gm)
  c0 := (World.cell?_of_block (w := w) (a := ⟨m, 0, none⟩) (hk m h.gm)).trans h.c0
  c1 := (World.cell?_of_block (w := w) (a := ⟨m, 1, none⟩) (hk m h.gm)).trans h.c1
  c2 := (World.cell?_of_block (w := w) (a := ⟨m, 2, none⟩) (hk m h.gm)).trans h.c2
  c3 := (World.cell?_of_block (w := w) (a := ⟨m, 3, none⟩) (hk m h.gm)).trans h.c3
  ks := own_same h.ks fun g hg => hk g (h.gk g hg)
  ls := own_same h.ls fun g hg => hk g (h.gl g hg)
  len := h.len
  el j v a hv ha := own_same (h.el j v a hv ha) fun g hg => hk g (h.ge v (List.mem_of_getElem? hv) g hg)
  dis := h.dis
  gm := h.gm
  gk := h.gk
  gl := h.gl
  ge := h.ge
  glt g hg := Nat.lt_of_lt_of_le (h.glt g hg) hs
theorem BookAt.next {w w' : World} {m p : Nat} {A : Hp} {Kd : List Int} {u : Nat} {kv lv : Value} {Ls : List Value} {G : Nat → Prop} (h : BookAt w m p A Kd u kv lv Ls G) (k : Below w.heap.size w w') : BookAt w' m p A Kd u kv lv Ls G := h.same (fun b hb => k.block b (h.glt b hb)) k.size

/-- The heap and its book. -/
def St (w : World) (B p m lim : Nat) (A : Hp) : Prop := ∃ F G kv lv Ls, HeapOf w p lim A F ∧ BookAt w m p A (A.map (·.1)) (usedS A) kv lv Ls G ∧ (∀ b, F b → ¬ G b) ∧ (∀ b, F b → B ≤ b) ∧ ∀ b, G b → B ≤ b

theorem BookAt.kept {w w' : World} {m p : Nat} {A : Hp} {Kd : List Int} {u : Nat} {kv lv : Value} {Ls : List Value} {F G : Nat → Prop} (h : BookAt w m p A Kd u kv lv Ls G) (k : Kp F w w') (hd : ∀ b, F b → ¬ G b) : BookAt w' m p A Kd u kv lv Ls G := h.same (fun b hb => k.block b (h.glt b hb) (fun q => hd b q hb)) k.size

/-- A kind more in the book. -/
theorem BookAt.setK {w w3 : World} {m p : Nat} {A : Hp} {Kd : List Int} {u : Nat} {kv lv kv' : Value} {Ls : List Value} {G : Nat → Prop} (h : BookAt w m p A Kd u kv lv Ls G) (k : Int) (C : Obj)
    (hown : w3.ownsRow 0 30 1 kv' (Kd.length + 1 + 1) ((.int .i64 0 :: Kd.map fun k => .int .i64 k) ++ [.int .i64 k])) (hg : (w.alloc C).grownBy w3 kv.ownBlock) :
    BookAt (w3.setCell ⟨m, 1, none⟩ kv') m p A (Kd ++ [k]) u kv' lv Ls (fun b => G b ∨ kv'.ownBlock = some b) := by
  have h3 : ∀ k, k < w.heap.size → kv.ownBlock ≠ some k → w3.heap[k]? = w.heap[k]? := fun k hk hn => (hg.block k (by simp; omega) (fun e => hn e.symm)).trans (Below.heap_alloc w C k hk)
  have hp3 : w3.heap[m]? = w.heap[m]? := h3 m h.blk.lt (own_ne h.ks h.blk (by decide))
  have hpb := h.blk.same hp3
  have hc3 := fun o' => World.cell?_of_block (w := w) (w' := w3) (a := ⟨m, o', none⟩) hp3
  have ho : ∀ k, k ≠ m → (w3.setCell ⟨m, 1, none⟩ kv').heap[k]? = w3.heap[k]? := fun k hk => set_heap (a := ⟨m, 1, none⟩) hk
  have hc : ∀ i, i ≠ 1 → (w3.setCell ⟨m, 1, none⟩ kv').cell? ⟨m, i, none⟩ = w.cell? ⟨m, i, none⟩ := fun i h1 => by
    rw [World.cell?_setCell_other _ _ _ _ (fun e => h1 (by have := congrArg Addr.off e; simp at this; omega))]
    exact hc3 i
  have hb : ∀ {g n t}, Blk w g t n → t ≠ 34 → t ≠ 30 → (w3.setCell ⟨m, 1, none⟩ kv').heap[g]? = w.heap[g]? := fun {g n t} hb n1 n2 => (ho g (hb.ne h.blk n1)).trans (h3 g hb.lt (own_ne h.ks hb n2))
  have hsz : w.heap.size ≤ w3.heap.size := Nat.le_trans (by simp) hg.size
  exact {
    blk := hpb.setCell _ _
    c0 := (hc 0 (by decide)).trans h.c0
    c1 := World.cell?_setCell_same' _ _ _ (by rw [hc3 1, h.c1]; rfl)
    c2 := (hc 2 (by decide)).trans h.c2
    c3 := (hc 3 (by decide)).trans h.c3
    ks := by
      rw [List.length_append, List.map_append]
      exact own_same hown fun g hg => ho g (fun e => own_ne hown hpb (by decide) (e ▸ hg))
    ls := own_same h.ls fun g hg => hb (own_blk h.ls g hg) (by decide) (by decide)
    len := h.len
    el := fun j v a hv ha => own_same (h.el j v a hv ha) fun g hg => hb (own_blk (h.el j v a hv ha) g hg) (by decide) (by decide)
    dis := h.dis
    gm := .inl h.gm
    gk := fun g hg => .inr hg
    gl := fun g hg => .inl (h.gl g hg)
    ge := fun v hv g hg => .inl (h.ge v hv g hg)
    glt := fun g hg => by
      rw [set_size]
      rcases hg with q | q
      · exact Nat.lt_of_lt_of_le (h.glt g q) hsz
      · exact (own_blk hown g q).lt }
/-- A list more in the book. -/
theorem BookAt.setL {w w3 : World} {m p : Nat} {A : Hp} {Kd : List Int} {u : Nat} {kv lv lv' : Value} {Ls : List Value} {G : Nat → Prop} (h : BookAt w m p A Kd u kv lv Ls G) (v : Value) (k : Int) (els : List V) (C : Obj)
    (hv : w.ownsRow 0 37 3 v els.length (vcs els)) (hG : ∀ g, v.ownBlock = some g → ¬ G g)
    (hown : w3.ownsRow 0 59 1 lv' (A.length + 1 + 1) ((.slice none 0 0 :: Ls) ++ [v])) (hg : (w.alloc C).grownBy w3 lv.ownBlock) :
    BookAt (w3.setCell ⟨m, 2, none⟩ lv') m p (A ++ [(k, els)]) Kd u kv lv' (Ls ++ [v]) (fun b => (G b ∨ lv'.ownBlock = some b) ∨ v.ownBlock = some b) := by
  have h3 : ∀ k, k < w.heap.size → lv.ownBlock ≠ some k → w3.heap[k]? = w.heap[k]? := fun k hk hn => (hg.block k (by simp; omega) (fun e => hn e.symm)).trans (Below.heap_alloc w C k hk)
  have hp3 : w3.heap[m]? = w.heap[m]? := h3 m h.blk.lt (own_ne h.ls h.blk (by decide))
  have hpb := h.blk.same hp3
  have hc3 := fun o' => World.cell?_of_block (w := w) (w' := w3) (a := ⟨m, o', none⟩) hp3
  have ho : ∀ k, k ≠ m → (w3.setCell ⟨m, 2, none⟩ lv').heap[k]? = w3.heap[k]? := fun k hk => set_heap (a := ⟨m, 2, none⟩) hk
  have hc : ∀ i, i ≠ 2 → (w3.setCell ⟨m, 2, none⟩ lv').cell? ⟨m, i, none⟩ = w.cell? ⟨m, i, none⟩ := fun i h1 => by
    rw [World.cell?_setCell_other _ _ _ _ (fun e => h1 (by have := congrArg Addr.off e; simp at this; omega))]
    exact hc3 i
  have hb : ∀ {g n t}, Blk w g t n → t ≠ 34 → t ≠ 59 → (w3.setCell ⟨m, 2, none⟩ lv').heap[g]? = w.heap[g]? := fun {g n t} hb n1 n2 => (ho g (hb.ne h.blk n1)).trans (h3 g hb.lt (own_ne h.ls hb n2))
  have hsz : w.heap.size ≤ w3.heap.size := Nat.le_trans (by simp) hg.size
  exact {
    blk := hpb.setCell _ _
    c0 := (hc 0 (by decide)).trans h.c0
    c1 := (hc 1 (by decide)).trans h.c1
    c2 := World.cell?_setCell_same' _ _ _ (by rw [hc3 2, h.c2]; rfl)
    c3 := (hc 3 (by decide)).trans h.c3
    ks := own_same h.ks fun g hg => hb (own_blk h.ks g hg) (by decide) (by decide)
    ls := by
      rw [List.length_append]
      exact own_same hown fun g hg => ho g (fun e => own_ne hown hpb (by decide) (e ▸ hg))
    len := by rw [List.length_append, List.length_append, h.len]; rfl
    el := fun j x a hx ha => by
      by_cases hj : j < Ls.length
      · rw [List.getElem?_append_left hj] at hx
        rw [List.getElem?_append_left (by rw [← h.len]; exact hj)] at ha
        exact own_same (h.el j x a hx ha) fun g hg => hb (own_blk (h.el j x a hx ha) g hg) (by decide) (by decide)
      · have hj2 : j = Ls.length := by have := (List.getElem?_eq_some_iff.1 hx).1; simp at this; omega
        subst hj2
        rw [List.getElem?_append_right (Nat.le_refl _), Nat.sub_self] at hx
        rw [List.getElem?_append_right (by rw [h.len]; exact Nat.le_refl _), h.len, Nat.sub_self] at ha
        cases hx
        cases ha
        exact own_same hv fun g hg => hb (own_blk hv g hg) (by decide) (by decide)
    dis := by
      rw [List.pairwise_append]
      refine ⟨h.dis, List.pairwise_singleton _ _, fun a ha b hb g hg => ?_⟩
      obtain rfl := List.mem_singleton.1 hb
      exact fun e => hG g e (h.ge a ha g hg)
    gm := .inl (.inl h.gm)
    gk := fun g hg => .inl (.inl (h.gk g hg))
    gl := fun g hg => .inl (.inr hg)
    ge := fun x hx g hg => by
      rcases List.mem_append.1 hx with q | q
      · exact .inl (.inl (h.ge x q g hg))
      · obtain rfl := List.mem_singleton.1 q
        exact .inr hg
    glt := fun g hg => by
      rw [set_size]
      rcases hg with (q | q) | q
      · exact Nat.lt_of_lt_of_le (h.glt g q) hsz
      · exact (own_blk hown g q).lt
      · exact Nat.lt_of_lt_of_le (own_blk hv g q).lt hsz }
theorem BookAt.setU {w : World} {m p : Nat} {A : Hp} {Kd : List Int} {u : Nat} {kv lv : Value} {Ls : List Value} {G : Nat → Prop} (h : BookAt w m p A Kd u kv lv Ls G) (u' : Nat) : BookAt (w.setCell ⟨m, 3, none⟩ (.int .i64 (u' : Int))) m p A Kd u' kv lv Ls G := by
  have ho : ∀ k, k ≠ m → (w.setCell ⟨m, 3, none⟩ (.int .i64 (u' : Int))).heap[k]? = w.heap[k]? := fun k hk => set_heap (a := ⟨m, 3, none⟩) hk
  have hc : ∀ i, i ≠ 3 → (w.setCell ⟨m, 3, none⟩ (.int .i64 (u' : Int))).cell? ⟨m, i, none⟩ = w.cell? ⟨m, i, none⟩ := fun i h1 => World.cell?_setCell_other _ _ _ _ (fun e => h1 (by have := congrArg Addr.off e; simp at this; omega))
  exact {
    blk := h.blk.setCell _ _
    c0 := (hc 0 (by decide)).trans h.c0
    c1 := (hc 1 (by decide)).trans h.c1
    c2 := (hc 2 (by decide)).trans h.c2
    c3 := World.cell?_setCell_same' _ _ _ (by rw [h.c3]; rfl)
    ks := own_same h.ks fun g hg => ho g ((own_blk h.ks g hg).ne h.blk (by decide))
    ls := own_same h.ls fun g hg => ho g ((own_blk h.ls g hg).ne h.blk (by decide))
    len := h.len
    el := fun j v a hv ha => own_same (h.el j v a hv ha) fun g hg => ho g ((own_blk (h.el j v a hv ha) g hg).ne h.blk (by decide))
    dis := h.dis
    gm := h.gm
    gk := h.gk
    gl := h.gl
    ge := h.ge
    glt := fun g hg => by rw [set_size]; exact h.glt g hg }

theorem step_app {P : Program} (t e : TypeId) (z : Value) (size bytes : Nat) (ht : P.underlying t = some (.slice e)) (hinf : (P.info? e).map (fun i => (i.zero, i.size, i.bytes)) = some (some z, size, bytes)) (hzs : z.cells.size = size) (hsz : 0 < size) (hby : bytes ≤ 100)
    {w : World} {ops : Array Oper} {o : Oper} {a : Act} {K : Act → World → Prop} {Q : Exit → Act → World → Prop} {E : Prop} (hgd : o.guard = none) (s x : Operand)
    (ho : o.op = .call { callee := .builtin .append, args := #[s, x], argTypes := #[t, t] })
    (base : Nat) (v : Value) (n : Nat) (xs : List Value) (hs : a.eval s = v) (hown : w.ownsRow base e size v n xs) (g : Nat) (C : List Value) (hC : C.length = size) (h1 : ∀ u ∈ C, u.oneCell' = true) (hx : a.eval x = .slice (some ⟨g, 0, none⟩) 1 1)
    (hr : w.rangeAt g 0 C) (h40 : n + 1 ≤ 1000000000) (hbase : base ≤ w.heap.size)
    (h : ∀ v' w', Hid (w'.ownsRow base e size v' (n + 1) (xs ++ C)) → Hid (w.grownBy w' v.ownBlock ∧ (v'.ownBlock = v.ownBlock ∨ v'.ownBlock = some w.heap.size)) → K (a.put o.dst v') w') : if Region.wanted o (yielded ops a.tmps) = true then Oper.wp P o a w K Q else E := by
  have hw : Region.wanted o (yielded ops a.tmps) = true := by simp [Region.wanted, hgd]
  rw [if_pos hw]
  obtain ⟨i0, hi, hz0, hz1, hz2⟩ := info_parts hinf
  have hb : (n + 1) * bytes ≤ 140737488355328 := Nat.le_trans (Nat.mul_le_mul h40 hby) (by decide)
  obtain ⟨v', w', hr, h2, h3, _, h4⟩ := run_append_own_at (P := P) w base t o.type e i0 z size bytes ht hi hz0 hz1 hz2 hzs hsz v n xs hown ⟨g, 0, none⟩ 1 1 C (by rw [Nat.one_mul]; exact hC)
    (fun j u hu => by rw [Addr.add_mid]; exact hr j u hu) h1 (by unfold maxLen; omega) hb hbase
  unfold Oper.wp execOp
  simp only [ho, resolve, invoke, builtin, Sem.run_bind, Sem.run_pure, Result.andThen_ok, List.map_toArray, List.map_cons, List.map_nil, hs, hx, hr]
  exact h v' w' h2 ⟨h3, h4⟩

theorem step_call {P : Program} {w : World} {ops : Array Oper} {o : Oper} {a : Act} {K : Act → World → Prop} {Q : Exit → Act → World → Prop} {E : Prop} (hgd : o.guard = none) (f : FuncId) (xs : List Operand) (ts : Array TypeId) (us : List Value)
    (ho : o.op = .call { callee := .value (.func f), args := xs.toArray, argTypes := ts }) (hx : xs.map a.eval = us) (hcf : ∀ w : World, (callFunc f us.toArray).run P w = .ok (.enter f us.toArray) w)
    (Post : Value → World → Prop) (hc : Calls P f us.toArray w fun e w' => ∃ v, e = .returned v ∧ Post v w') (hK : ∀ v w', Post v w' → K (a.put o.dst v) w') : if Region.wanted o (yielded ops a.tmps) = true then Oper.wp P o a w K Q else E := by
  have hw : Region.wanted o (yielded ops a.tmps) = true := by simp [Region.wanted, hgd]
  rw [if_pos hw]
  have hf : a.eval (.func f) = .func (.func f) #[] #[] := rfl
  have hr : (execOp a.eval o).run P w = .ok (.enter f us.toArray) w := by
    unfold execOp
    simp only [ho, resolve, invoke, Sem.run_bind, List.map_toArray, hx, hf]
    simp [go_sem, hcf]
  unfold Oper.wp
  rw [hr, Oper.upon_enter]
  refine hc.mono ?_
  rintro e w' ⟨v, rfl, hb⟩
  exact hK _ _ hb

theorem info59 : (Tryd.prog.info? 59).map (fun i => (i.zero, i.size, i.bytes)) = some (some (.slice none 0 0), 1, 24) := by kernel_rfl
theorem info30 : (Tryd.prog.info? 30).map (fun i => (i.zero, i.size, i.bytes)) = some (some (.int .i64 0), 1, 8) := by kernel_rfl

theorem limit_any (n : Int) (w : World) : Calls Tryd.prog 9 #[.int .i64 n] w fun e w' => e = .returned (.int .i64 ((limS n : Nat) : Int)) ∧ w' = w := by
  have hl : ((limS n : Nat) : Int) = if n < 0 then 0 else if 100000 < n then 100000 else n := by
    unfold limS
    split
    · rfl
    · split
      · rfl
      · omega
  rw [hl]
  clear hl
  by_cases h0 : n < 0
  · rw [if_pos h0]
    go_enter Tryd.func9, Tryd.ntmps9
    go_wp2
    go_ret
    exact ⟨rfl, rfl⟩
  · rw [if_neg h0]
    by_cases h1 : 100000 < n
    · rw [if_pos h1]
      go_enter Tryd.func9, Tryd.ntmps9
      go_wp2
      go_ret
      exact ⟨rfl, rfl⟩
    · rw [if_neg h1]
      go_enter Tryd.func9, Tryd.ntmps9
      go_wp2
      go_ret
      exact ⟨rfl, rfl⟩

theorem own_ge {w : World} {B : Nat} {e : TypeId} {sz : Nat} {v : Value} {n : Nat} {xs : List Value} (h : w.ownsRow B e sz v n xs) : ∀ g, v.ownBlock = some g → B ≤ g := fun g hg => (h.lt g hg).1

set_option maxRecDepth 100000 in
set_option maxHeartbeats 1000000 in
theorem zeros_any (k : Int) (n : Nat) (w : World) (hn : n ≤ 1000000) : Calls Tryd.prog 30 #[.int .i64 k, .int .i64 (n : Int)] w fun e w' => ∃ v, e = .returned v ∧ Hid (w'.ownsRow w.heap.size 37 3 v n (vcs (List.replicate n (k, 0, e0)))) ∧ Below w.heap.size w w' := by
  have HO : Hid (∀ u ∈ (#[.int .i64 k, .int .i64 0, .string e0] : Array Value).toList, u.oneCell' = true) := fun u hu => by
    simp only [List.mem_cons, List.not_mem_nil, or_false] at hu
    rcases hu with rfl | rfl | rfl <;> rfl
  go_enter Tryd.func30, Tryd.ntmps30
  go_wp2
  go_loopw [5, 6] (fun v i wr => ∃ j : Nat, j ≤ n ∧ i = .int .i64 (j : Int) ∧ Hid (wr.ownsRow w.heap.size 37 3 v j (vcs (List.replicate j (k, 0, e0)))) ∧ Hid (Below w.heap.size w wr)) (fun _ i _ => n - (intOf i).toNat)
  case atStart => exact ⟨0, Nat.zero_le _, rfl, World.ownsRow_nil _ _ _ _, Below.refl _ _⟩
  case round =>
    obtain ⟨j, hj, rfl, ho, hB⟩ := hrel
    by_cases hlt : j < n
    · have HB : Hid (w.heap.size ≤ wr.heap.size) := hB.out.size
      go_wp2_with (first
        | (at_builtin; refine wpList_app 59 37 _ 3 32 Tryd.underlying59 info37 (by rfl) (by decide) (by decide) (by rfl) _ _ (by rfl) w.heap.size u5 j (vcs (List.replicate j (k, 0, e0))) (by rfl) ho.out _ (by rfl) HO.out (by rfl) (by omega) HB.out ?_; intro v' w3 ho3 hg3)
        | go_in)
      refine ⟨⟨j + 1, by omega, by go_num, ?_, ?_⟩, by simp [intOf]; omega⟩
      · rw [← repl_succ]
        exact ho3
      · exact ((hB.out.alloc HB.out _).grown hg3.out.1 (by simp; exact Nat.le_succ_of_le HB.out) (own_ge ho.out))
    · obtain rfl : j = n := by omega
      obtain ⟨q, c, rfl, -, -⟩ := own_slice ho.out
      go_wp2
      first | (change bodyPost Tryd.prog Tryd.f30 _ Exit.ret _ _) | (simp only [Exit.noGoto])
      go_ret
      exact ⟨_, rfl, ho, hB⟩
end Go.Proofs.YtdcioemjmmhbhaaDoor
