import Derived.Test.YtcjnejdemfemfaaGreatDoorFR1
import Derived.Test.YtcjnejdemfemfaaGreatDoorFR2
import Derived.Test.YtcjnejdemfemfaaGreatDoorFrI
namespace Go.Proofs.YtcjnejdemfemfaaGreatDoor
open Go.RowKit

theorem take_snF {α : Type} (l : List α) (i : Nat) (h : i < l.length) : l.take (i + 1) = l.take i ++ [l[i]] := by rw [List.take_add_one, List.getElem?_eq_getElem h]; rfl
theorem one_sl (q : Option Addr) (n c : Nat) : ∀ u ∈ ([.slice q n c] : List Value), u.oneCell' = true := fun u hu => by
  obtain rfl := List.mem_singleton.1 hu
  rfl
/-- A slice more in a row of slices that is new memory. -/
theorem app_slice {P : Program} (t e : TypeId) (ht : P.underlying t = some (.slice e)) (hinf : (P.info? e).map (fun i => (i.zero, i.size, i.bytes)) = some (some (.slice none 0 0), 1, 24)) {w W : World} {v : Value} {n : Nat} {xs : List Value} (h : W.ownsRow w.heap.size e 1 v n xs) (hb : Below w.heap.size w W) (q : Option Addr) (m c : Nat) (hn : n + 1 ≤ 1000000000) :
    ∃ v' w', (Builtin.append_ #[t, t] t #[v, .slice (some ⟨W.heap.size, 0, none⟩) 1 1]).run P (W.alloc (.cells #[.slice q m c] e)) = .ok v' w' ∧ w'.ownsRow w.heap.size e 1 v' (n + 1) (xs ++ [.slice q m c]) ∧ Below w.heap.size w w' ∧ ∀ {e2 : TypeId} {u : Value} {n2 : Nat} {ys : List Value}, e2 ≠ e → W.ownsRow w.heap.size e2 1 u n2 ys → w'.ownsRow w.heap.size e2 1 u n2 ys := by
  have nb : Below W.heap.size W (W.alloc (.cells #[.slice q m c] e)) := (Below.refl _ W).alloc (Nat.le_refl _) _
  have hbC := below2 hb nb
  have ho := own_next h nb
  obtain ⟨v', w', e1, e2, e3⟩ := app_any (P := P) t t (.slice none 0 0) 24 ht hinf rfl (by decide) (by decide) v n xs ho W.heap.size [.slice q m c] rfl (one_sl _ _ _) (fun j u hj => by
    have e := World.alloc_heap_new W (.cells #[.slice q m c] e)
    rw [Nat.zero_add]
    simp only [World.cell?, e]
    simpa using hj) hn hbC.size
  refine ⟨v', w', e1, e2, hbC.grown e3 hbC.size (fun k hk => (ho.lt k hk).1), fun {e2 u n2 ys} hne hu => ?_⟩
  have hu2 := own_next hu nb
  exact own_same hu2 fun g hg => e3.block g (own_blk hu2 g hg).lt fun q => own_ne ho (own_blk hu2 g hg) hne q.symm
theorem infoLS2 : (Tryz.prog.info? 40).map (fun i => (i.zero, i.size, i.bytes)) = some (some (.slice none 0 0), 1, 24) := infoLS

def mkE (i j : Nat) : Em := (⟨e0, (i : Int), 0, [], (j : Int)⟩, none, 0)
theorem hcE : ∀ x, (ec x).length = 5 := fun _ => rfl
theorem infoLE : (Tryz.prog.info? 23).map (fun i => (i.zero, i.size, i.bytes)) = some (some (.slice none 0 0), 1, 24) := by kernel_rfl
theorem there5 {W : World} {g o : Nat} (h : W.there g o 5) : ∃ x0 x1 x2 x3 x4, ((W.cell? ⟨g, o, none⟩ = some x0 ∧ W.cell? ⟨g, o + 1, none⟩ = some x1 ∧ W.cell? ⟨g, o + 2, none⟩ = some x2) ∧ W.cell? ⟨g, o + 3, none⟩ = some x3 ∧ W.cell? ⟨g, o + 4, none⟩ = some x4) ∧ (W.frozen? ⟨g, o, none⟩ = false ∧ W.frozen? ⟨g, o + 1, none⟩ = false ∧ W.frozen? ⟨g, o + 2, none⟩ = false) ∧ W.frozen? ⟨g, o + 3, none⟩ = false ∧ W.frozen? ⟨g, o + 4, none⟩ = false := by
  have h0 := h 0 (by decide)
  have h1 := h 1 (by decide)
  have h2 := h 2 (by decide)
  have h3 := h 3 (by decide)
  have h4 := h 4 (by decide)
  rw [Nat.add_zero] at h0
  obtain ⟨x0, e0⟩ := Option.isSome_iff_exists.1 h0.1
  obtain ⟨x1, e1⟩ := Option.isSome_iff_exists.1 h1.1
  obtain ⟨x2, e2⟩ := Option.isSome_iff_exists.1 h2.1
  obtain ⟨x3, e3⟩ := Option.isSome_iff_exists.1 h3.1
  obtain ⟨x4, e4⟩ := Option.isSome_iff_exists.1 h4.1
  exact ⟨x0, x1, x2, x3, x4, ⟨⟨e0, e1, e2⟩, e3, e4⟩, ⟨h0.2, h1.2, h2.2⟩, h3.2, h4.2⟩
theorem Anq.bk {T : Type} {c : T → List Value} {k : Nat} {E : TypeId} {w : World} {b : Nat} {Ls : List (List T)} {vs : List Value} (h : Anq c k E w b Ls vs) {g : Nat} (hg : bkL vs g) : Blk w g E 0 ∧ b ≤ g := by
  obtain ⟨i, x, hx, hxg⟩ := hg
  have hi : i < vs.length := (List.getElem?_eq_some_iff.1 hx).1
  obtain ⟨q, cp, h1, h2⟩ := h.own i (by rw [← h.len]; exact hi)
  rw [hx] at h1
  cases h1
  exact ⟨(own_blk h2 g hxg).le (Nat.zero_le _), (h2.lt g hxg).1⟩
theorem Anq.kp {T : Type} {c : T → List Value} {k : Nat} {E : TypeId} {w W : World} {b : Nat} {Ls : List (List T)} {vs : List Value} (h : Anq c k E w b Ls vs) (q : Kp (bkL vs) w W) : ∀ t, t ≠ E → ∀ g n, Blk w g t n → W.heap[g]? = w.heap[g]? := fun _ ht g _ hb => q.block g hb.lt fun hg => hb.ne (h.bk hg).1 ht rfl
theorem Anq.below {T : Type} {c : T → List Value} {k : Nat} {E : TypeId} {w W : World} {b : Nat} {Ls : List (List T)} {vs : List Value} (h : Anq c k E w b Ls vs) (q : Kp (bkL vs) w W) (hb : b ≤ w.heap.size) : Below b w W := q.below (fun _ hg => (h.bk hg).2) hb
theorem own_kpF {w W : World} {B : Nat} {e : TypeId} {sz : Nat} {v : Value} {n : Nat} {xs : List Value} (h : w.ownsRow B e sz v n xs) (hk : ∀ g n, Blk w g e n → W.heap[g]? = w.heap[g]?) : W.ownsRow B e sz v n xs := own_same h fun g hg => hk g _ (own_blk h g hg)

theorem callA1 (a : Value) (w : World) : (callFunc 34 #[a]).run Tryz.prog w = .ok (.enter 34 #[a]) w := by kernel_rfl
theorem callA2 (a : Value) (w : World) : (callFunc 35 #[a]).run Tryz.prog w = .ok (.enter 35 #[a]) w := by kernel_rfl
theorem callA3 (a : Value) (w : World) : (callFunc 36 #[a]).run Tryz.prog w = .ok (.enter 36 #[a]) w := by kernel_rfl
theorem step_callG {P : Program} {w : World} {ops : Array Oper} {o : Oper} {a : Act} {K : Act → World → Prop} {Q : Exit → Act → World → Prop} {E : Prop} (hw : Region.wanted o (yielded ops a.tmps) = true) (f : FuncId) (xs : List Operand) (ts : Array TypeId) (us : List Value)
    (ho : o.op = .call { callee := .value (.func f), args := xs.toArray, argTypes := ts }) (hx : xs.map a.eval = us) (hcf : ∀ w : World, (callFunc f us.toArray).run P w = .ok (.enter f us.toArray) w)
    (Post : Value → World → Prop) (hc : Calls P f us.toArray w fun e w' => ∃ v, e = .returned v ∧ Post v w') (hK : ∀ v w', Post v w' → K (a.put o.dst v) w') : if Region.wanted o (yielded ops a.tmps) = true then Oper.wp P o a w K Q else E := by
  rw [if_pos hw]
  have hf : a.eval (.func f) = .func (.func f) #[] #[] := rfl
  have hr : (execOp a.eval o).run P w = .ok (.enter f us.toArray) w := by
    unfold execOp
    simp only [ho, resolve, invoke, Sem.run_bind, List.map_toArray, hx, hf]
    simp [go_sem, hcf]
  unfold Oper.wp
  rw [hr, Oper.upon_enter]
  refine hc.mono ?_
  rintro e w' ⟨v, rfl, hb⟩
  exact hK _ _ hb

theorem wpList_callG {P : Program} {w : World} {ops : Array Oper} {rest : List Oper} {o : Oper} {a : Act} {Q : Exit → Act → World → Prop} (hw : Region.wanted o (yielded ops a.tmps) = true) (f : FuncId) (xs : List Operand) (ts : Array TypeId) (us : List Value)
    (ho : o.op = .call { callee := .value (.func f), args := xs.toArray, argTypes := ts }) (hx : xs.map a.eval = us) (hcf : ∀ w : World, (callFunc f us.toArray).run P w = .ok (.enter f us.toArray) w)
    (Post : Value → World → Prop) (hc : Calls P f us.toArray w fun e w' => ∃ v, e = .returned v ∧ Post v w') (hK : ∀ v w', Post v w' → wpList P ops Q rest (a.put o.dst v) w') : wpList P ops Q (o :: rest) a w :=
  BigFrame.wpList_want hw fun K hKK => by
    have := step_callG (K := K) (Q := Q) (E := True) hw f xs ts us ho hx hcf Post hc fun v w' h => hKK _ _ (hK v w' h)
    rw [if_pos hw] at this
    exact this

theorem cm_cells {w : World} {P : Nat} {K : List Cm} {t : TypeId} (h : w.heap[P]? = some (.cells (K.flatMap Cm.cells).toArray t)) (i : Nat) (hi : i < K.length) : (w.cell? ⟨P, i * 4, none⟩ = some (.slice K[i].iq K[i].c.ins.length K[i].ia) ∧ w.cell? ⟨P, i * 4 + 1, none⟩ = some (.slice K[i].eq K[i].c.ens.length K[i].ea)) ∧ w.cell? ⟨P, i * 4 + 2, none⟩ = some (.slice K[i].tq K[i].c.txs.length K[i].ta) := by
  have key : ∀ j, j < 4 → w.cell? ⟨P, i * 4 + j, none⟩ = K[i].cells[j]? := fun j hj => by
    have e := flat_at Cm.cells 4 (fun _ => rfl) K i j hi hj
    simp only [World.cell?, h]
    rw [← e]
    simp
  exact ⟨⟨key 0 (by decide), key 1 (by decide)⟩, key 2 (by decide)⟩
/-- What spoil reads: the codes and their entries. -/
structure Cmw (w : World) (P : Nat) (K : List Cm) (W : World) : Prop where
  b : Below w.heap.size w W
  cd : ∀ i (hi : i < K.length), (W.cell? ⟨P, i * 4, none⟩ = some (.slice K[i].iq K[i].c.ins.length K[i].ia) ∧ W.cell? ⟨P, i * 4 + 1, none⟩ = some (.slice K[i].eq K[i].c.ens.length K[i].ea)) ∧ W.cell? ⟨P, i * 4 + 2, none⟩ = some (.slice K[i].tq K[i].c.txs.length K[i].ta)
  en : ∀ i (hi : i < K.length) j (hj : j < K[i].Es.length), ∃ g, K[i].eq = some ⟨g, 0, none⟩ ∧ W.cell? ⟨g, j * 5 + 3, none⟩ = some (.slice K[i].Es[j].2.1 K[i].Es[j].1.sorts.length K[i].Es[j].2.2)
theorem Cmw.of {w : World} {b P : Nat} {K : List Cm} (hK : Cms w b K) (hP : w.heap[P]? = some (.cells (K.flatMap Cm.cells).toArray 26)) : ∀ W, Below w.heap.size w W → Cmw w P K W := fun W hW => by
  have hK2 := hK.next hW
  refine ⟨hW, fun i hi => cm_cells ((hW.block P (Array.getElem?_eq_some_iff.1 hP).1).trans hP) i hi, fun i hi j hj => ?_⟩
  have he := (hK2.ok _ (List.getElem_mem hi)).rows.er
  obtain ⟨q, cp, e1, -, e2⟩ := own_slice he
  obtain ⟨g, rfl, hr⟩ := e2 (by omega)
  unfold Cm.ev at e1
  have e3 := (Value.slice.inj e1).1
  refine ⟨g, e3, ?_⟩
  have e := flat_at ec 5 (fun _ => rfl) K[i].Es j 3 hj (by decide)
  have := hr (j * 5 + 3) _ (e.trans rfl)
  rw [Nat.zero_add] at this
  exact this

set_option maxRecDepth 100000 in
set_option maxHeartbeats 8000000 in
theorem spoil_any (w : World) (P cap b : Nat) (K : List Cm) (hK : Cms w b K) (hP : w.heap[P]? = some (.cells (K.flatMap Cm.cells).toArray 26)) (hl : K.length ≤ 100) (hs : ∀ x ∈ K, (x.Es.length ≤ 1000 ∧ x.c.ins.length ≤ 100000000 ∧ x.c.txs.length ≤ 100000000) ∧ ∀ y ∈ x.Es, y.1.sorts.length ≤ 100000000) (hne : 0 < K.length ∧ 0 < (K.flatMap Cm.Es).length) (hbw : b ≤ w.heap.size) :
    Calls Tryz.prog 12 #[.slice (some ⟨P, 0, none⟩) K.length cap] w fun e w' => e = .returned (.bool true) ∧ Below b w w' := by
  have HC : Hid (∀ W, Below w.heap.size w W → Cmw w P K W) := Cmw.of hK hP
  have HK : Hid (Cms w b K) := hK
  have HPP : Hid (w.heap[P]? = some (.cells (K.flatMap Cm.cells).toArray 26)) := hP
  have HTL : Hid (∀ i, i ≤ K.length → ((K.take i).flatMap Cm.Es).length ≤ i * 1000) := fun i hi => by
    have key : ∀ l : List Cm, (∀ x ∈ l, x.Es.length ≤ 1000) → (l.flatMap Cm.Es).length ≤ l.length * 1000 := fun l => by
      induction l with
      | nil => intro _; simp
      | cons a l ih =>
        intro h
        rw [List.flatMap_cons, List.length_append, List.length_cons]
        have h1 := h a (List.mem_cons_self ..)
        have h2 := ih fun x hx => h x (List.mem_cons_of_mem _ hx)
        omega
    have := key (K.take i) fun x hx => (hs x (List.mem_of_mem_take hx)).1.1
    rw [List.length_take] at this
    omega
  have hEl : ∀ i (hi : i < K.length), K[i].c.ens.length = K[i].Es.length := fun i hi => by rw [← (hK.ok _ (List.getElem_mem hi)).en, List.length_map]
  have HEL : Hid (∀ i (hi : i < K.length), K[i].c.ens.length = K[i].Es.length ∧ K[i].Es.length ≤ 1000) := fun i hi => ⟨hEl i hi, (hs _ (List.getElem_mem hi)).1.1⟩
  have HS : Hid (∀ x ∈ K, (x.Es.length ≤ 1000 ∧ x.c.ins.length ≤ 100000000 ∧ x.c.txs.length ≤ 100000000) ∧ ∀ y ∈ x.Es, y.1.sorts.length ≤ 100000000) := hs
  clear hK hP hs hEl
  go_enter Tryz.func12, Tryz.ntmps12
  go_wp2_with fail
  go_loopw [3, 4, 5, 6] (fun s3 s4 s5 s6 wr => ∃ (i : Nat), i ≤ K.length ∧ s6 = .int .i64 (i : Int) ∧ Hid (wr.ownsRow w.heap.size 40 1 s3 ((K.take i).flatMap Cm.Es).length (((K.take i).flatMap Cm.Es).map sval)) ∧ Hid (wr.ownsRow w.heap.size 22 1 s4 i ((K.take i).map Cm.iv)) ∧ Hid (wr.ownsRow w.heap.size 24 1 s5 i ((K.take i).map Cm.tv)) ∧ Hid (Below w.heap.size w wr)) (fun _ _ _ s6 _ => K.length - (intOf s6).toNat)
  case atStart => exact ⟨0, Nat.zero_le _, rfl, World.ownsRow_nil _ _ _ _, World.ownsRow_nil _ _ _ _, World.ownsRow_nil _ _ _ _, Below.refl _ _⟩
  case round =>
    obtain ⟨i, hi, rfl, h3, h4, h5, hB⟩ := hrel
    by_cases hlt : i < K.length
    · have hlt1 : (i : Int) < (K.length : Int) := by omega
      have i0 : (0 : Int) ≤ (i : Int) := by omega
      obtain ⟨⟨c0, c1⟩, c2⟩ := (HC.out wr hB.out).cd i hlt
      obtain ⟨v4, w4, r4, o4, b4, k4⟩ := app_slice (P := Tryz.prog) 78 22 Tryz.underlying78 infoLI h4.out hB.out K[i].iq K[i].c.ins.length K[i].ia (by omega)
      have o5 := k4 (by decide) h5.out
      have o3 := k4 (by decide) h3.out
      obtain ⟨⟨c0', c1'⟩, c2'⟩ := (HC.out w4 b4).cd i hlt
      obtain ⟨v5, w5, r5, p5, b5, k5⟩ := app_slice (P := Tryz.prog) 79 24 Tryz.underlying79 infoLT o5 b4 K[i].tq K[i].c.txs.length K[i].ta (by omega)
      have HT1 : Hid (K.take (i + 1) = K.take i ++ [K[i]]) := take_snF K i hlt
      have H4 : Hid (w5.ownsRow w.heap.size 22 1 v4 (i + 1) ((K.take (i + 1)).map Cm.iv)) := by
        rw [HT1.out, List.map_append]
        exact k5 (by decide) o4
      have H5 : Hid (w5.ownsRow w.heap.size 24 1 v5 (i + 1) ((K.take (i + 1)).map Cm.tv)) := by
        rw [HT1.out, List.map_append]
        exact p5
      have H3 : Hid (w5.ownsRow w.heap.size 40 1 u3 ((K.take i).flatMap Cm.Es).length (((K.take i).flatMap Cm.Es).map sval)) := k5 (by decide) o3
      have HB5 : Hid (Below w.heap.size w w5) := b5
      have HTi := HTL.out i hi
      obtain ⟨hel, he1⟩ := HEL.out i hlt
      clear k4 k5 o4 o3 o5 p5 b5 h3 h4 h5 b4 hB
      go_upto_region 8 with (first
        | (at_builtin; refine wpList_apr rfl (.tmp 22) (.tmp 28) 78 rfl r4 ?_)
        | go_in)
      clear r4 c0 c1 c2
      go_wp2_with (first
        | (at_builtin; refine wpList_apr rfl (.tmp 30) (.tmp 36) 79 rfl r5 ?_)
        | go_in)
      clear r5 c0' c1' c2'
      go_loopw [3, 7] (fun s3 s7 wr => ∃ (j : Nat), j ≤ K[i].Es.length ∧ s7 = .int .i64 (j : Int) ∧ Hid (wr.ownsRow w.heap.size 40 1 s3 (((K.take i).flatMap Cm.Es).length + j) (((K.take i).flatMap Cm.Es ++ K[i].Es.take j).map sval)) ∧ Hid (wr.ownsRow w.heap.size 22 1 v4 (i + 1) ((K.take (i + 1)).map Cm.iv)) ∧ Hid (wr.ownsRow w.heap.size 24 1 v5 (i + 1) ((K.take (i + 1)).map Cm.tv)) ∧ Hid (Below w.heap.size w wr)) (fun _ s7 _ => K[i].Es.length - (intOf s7).toNat)
      case atStart =>
        refine ⟨0, Nat.zero_le _, rfl, ?_, H4, H5, HB5⟩
        simp only [List.take_zero, List.append_nil, Nat.add_zero]
        exact H3
      case round =>
        clear H3 H4 H5 HB5
        obtain ⟨j, hj, rfl, h3, h4, h5, hB⟩ := hrel
        obtain ⟨⟨-, c1⟩, -⟩ := (HC.out wr hB.out).cd i hlt
        rw [hel] at c1
        by_cases hjl : j < K[i].Es.length
        · have hjl1 : (j : Int) < (K[i].Es.length : Int) := by omega
          have j0 : (0 : Int) ≤ (j : Int) := by omega
          obtain ⟨g, hq, c3⟩ := (HC.out wr hB.out).en i hlt j hjl
          rw [hq] at c1
          obtain ⟨v3, w3, r3, o3, b3, k3⟩ := app_slice (P := Tryz.prog) 77 40 Tryz.underlying77 infoLS h3.out hB.out K[i].Es[j].2.1 K[i].Es[j].1.sorts.length K[i].Es[j].2.2 (by omega)
          have H3 : Hid (w3.ownsRow w.heap.size 40 1 v3 (((K.take i).flatMap Cm.Es).length + (j + 1)) (((K.take i).flatMap Cm.Es ++ K[i].Es.take (j + 1)).map sval)) := by
            rw [take_snF K[i].Es j hjl, ← List.append_assoc, List.map_append]
            exact o3
          have H4 : Hid (w3.ownsRow w.heap.size 22 1 v4 (i + 1) ((K.take (i + 1)).map Cm.iv)) := k3 (by decide) h4.out
          have H5 : Hid (w3.ownsRow w.heap.size 24 1 v5 (i + 1) ((K.take (i + 1)).map Cm.tv)) := k3 (by decide) h5.out
          have HB3 : Hid (Below w.heap.size w w3) := b3
          clear k3 o3 b3 h3 h4 h5 hB hq
          go_wp2_with (first
            | (at_builtin; refine wpList_apr rfl (.tmp 48) (.tmp 58) 77 rfl r3 ?_)
            | go_in)
          exact ⟨⟨j + 1, by omega, by go_num, H3, H4, H5, HB3⟩, by simp [intOf]; omega⟩
        · obtain rfl : j = K[i].Es.length := by omega
          have H3 : Hid (wr.ownsRow w.heap.size 40 1 u3 ((K.take (i + 1)).flatMap Cm.Es).length (((K.take (i + 1)).flatMap Cm.Es).map sval)) := by
            have := h3.out
            rw [List.take_length] at this
            rw [HT1.out, List.flatMap_append, List.flatMap_singleton, List.length_append]
            exact this
          clear h3
          go_wp2
          exact ⟨⟨i + 1, by omega, by go_num, H3, h4, h5, hB⟩, by simp [intOf]; omega⟩
    obtain rfl : i = K.length := by omega
    obtain ⟨O3, p3, rfl, h3r⟩ : ∃ O3 p3, u3 = .slice (some ⟨O3, 0, none⟩) (K.flatMap Cm.Es).length p3 ∧ Hid (wr.ownsRow w.heap.size 40 1 u3 (K.flatMap Cm.Es).length ((K.flatMap Cm.Es).map sval)) := by
      have h := h3.out
      rw [List.take_length] at h
      obtain ⟨q, cp, e, -, hr⟩ := own_slice h
      obtain ⟨O, rfl, -⟩ := hr hne.2
      exact ⟨O, cp, e, h⟩
    obtain ⟨O4, p4, rfl, h4r⟩ : ∃ O4 p4, u4 = .slice (some ⟨O4, 0, none⟩) K.length p4 ∧ Hid (wr.ownsRow w.heap.size 22 1 u4 K.length (K.map Cm.iv)) := by
      have h := h4.out
      rw [List.take_length] at h
      obtain ⟨q, cp, e, -, hr⟩ := own_slice h
      obtain ⟨O, rfl, -⟩ := hr hne.1
      exact ⟨O, cp, e, h⟩
    obtain ⟨O5, p5, rfl, h5r⟩ : ∃ O5 p5, u5 = .slice (some ⟨O5, 0, none⟩) K.length p5 ∧ Hid (wr.ownsRow w.heap.size 24 1 u5 K.length (K.map Cm.tv)) := by
      have h := h5.out
      rw [List.take_length] at h
      obtain ⟨q, cp, e, -, hr⟩ := own_slice h
      obtain ⟨O, rfl, -⟩ := hr hne.1
      exact ⟨O, cp, e, h⟩
    have hbr : b ≤ wr.heap.size := Nat.le_trans hbw hB.out.size
    have HK1 := HK.out.next hB.out
    have cS : Calls Tryz.prog 34 #[.slice (some ⟨O3, 0, none⟩) (K.flatMap Cm.Es).length p3] wr fun e w' => e = .returned (.bool true) ∧ Kp (bkL ((K.flatMap Cm.Es).map sval)) wr w' := by
      have e : ((K.flatMap Cm.Es).map (·.1.sorts)).length = (K.flatMap Cm.Es).length := List.length_map _
      have hA := HK1.sorts.ans (SE := 40) (v := .slice (some ⟨O3, 0, none⟩) ((K.flatMap Cm.Es).map (·.1.sorts)).length p3) (by rw [e]; exact own_down h3r.out hbw)
      have := apartS_any wr O3 p3 b _ _ hA (by have := HTL.out K.length (Nat.le_refl _); rw [List.take_length] at this; rw [e]; omega) (fun l hm => by
        obtain ⟨y, hy, rfl⟩ := List.mem_map.1 hm
        obtain ⟨x, hx, hyx⟩ := List.mem_flatMap.1 hy
        exact (HS.out x hx).2 y hyx) hbr
      rw [e] at this
      exact this
    have HI : Hid (∀ W1, Kp (bkL ((K.flatMap Cm.Es).map sval)) wr W1 → Calls Tryz.prog 35 #[.slice (some ⟨O4, 0, none⟩) K.length p4] W1 fun e w' => e = .returned (.bool true) ∧ Kp (bkL (K.map Cm.iv)) W1 w') := fun W1 k1 => by
      have e : (K.map (·.c.ins)).length = K.length := List.length_map _
      have q1 := HK1.sorts.kp k1
      have hA := (HK1.ins.keep (q1 _ (by decide))).ans (SE := 22) (v := .slice (some ⟨O4, 0, none⟩) (K.map (·.c.ins)).length p4) (by rw [e]; exact own_down (own_kpF h4r.out (q1 _ (by decide))) hbw)
      have := apartI_any W1 O4 p4 b _ _ hA (by rw [e]; omega) (fun l hm => by
        obtain ⟨x, hx, rfl⟩ := List.mem_map.1 hm
        exact (HS.out x hx).1.2.1) (Nat.le_trans hbr k1.size)
      rw [e] at this
      exact this
    have HT : Hid (∀ W1 W2, Kp (bkL ((K.flatMap Cm.Es).map sval)) wr W1 → Kp (bkL (K.map Cm.iv)) W1 W2 → Calls Tryz.prog 36 #[.slice (some ⟨O5, 0, none⟩) K.length p5] W2 fun e w' => e = .returned (.bool true) ∧ Kp (bkL (K.map Cm.tv)) W2 w') := fun W1 W2 k1 k2 => by
      have e : (K.map (·.c.txs)).length = K.length := List.length_map _
      have q1 := HK1.sorts.kp k1
      have q2 := (HK1.ins.keep (q1 _ (by decide))).kp k2
      have hA := ((HK1.txs.keep (q1 _ (by decide))).keep (q2 _ (by decide))).ans (SE := 24) (v := .slice (some ⟨O5, 0, none⟩) (K.map (·.c.txs)).length p5) (by rw [e]; exact own_down (own_kpF (own_kpF h5r.out (q1 _ (by decide))) (q2 _ (by decide))) hbw)
      have := apartT_any W2 O5 p5 b _ _ hA (by rw [e]; omega) (fun l hm => by
        obtain ⟨x, hx, rfl⟩ := List.mem_map.1 hm
        exact (HS.out x hx).1.2.2) (Nat.le_trans hbr (Nat.le_trans k1.size k2.size))
      rw [e] at this
      exact this
    have HE : Hid (∀ W1 W2 W3, Kp (bkL ((K.flatMap Cm.Es).map sval)) wr W1 → Kp (bkL (K.map Cm.iv)) W1 W2 → Kp (bkL (K.map Cm.tv)) W2 W3 → (Below b w W3 ∧ Anq ec 5 43 W3 b (K.map Cm.Es) (K.map Cm.ev)) ∧ W3.heap[P]? = some (.cells (K.flatMap Cm.cells).toArray 26)) := fun W1 W2 W3 k1 k2 k3 => by
      have q1 := HK1.sorts.kp k1
      have A2 := HK1.ins.keep (q1 _ (by decide))
      have q2 := A2.kp k2
      have A3 := (HK1.txs.keep (q1 _ (by decide))).keep (q2 _ (by decide))
      have q3 := A3.kp k3
      have hP1 := (hB.out.block P (Array.getElem?_eq_some_iff.1 HPP.out).1).trans HPP.out
      have hP2 := (q1 26 (by decide) P 0 ⟨_, hP1, Nat.zero_le _⟩).trans hP1
      have hP3 := (q2 26 (by decide) P 0 ⟨_, hP2, Nat.zero_le _⟩).trans hP2
      have hP4 := (q3 26 (by decide) P 0 ⟨_, hP3, Nat.zero_le _⟩).trans hP3
      exact ⟨⟨(((hB.out.mono hbw).trans (HK1.sorts.below k1 hbr)).trans (A2.below k2 (Nat.le_trans hbr k1.size))).trans (A3.below k3 (Nat.le_trans hbr (Nat.le_trans k1.size k2.size))), ((HK1.ens.keep (q1 _ (by decide))).keep (q2 _ (by decide))).keep (q3 _ (by decide))⟩, hP4⟩
    clear h3 h4 h5 h3r h4r h5r HK1 HTL hlt HK
    have cS2 : Calls Tryz.prog 34 #[.slice (some ⟨O3, 0, none⟩) (K.flatMap Cm.Es).length p3] wr fun e w' => ∃ v, e = .returned v ∧ (v = .bool true ∧ Kp (bkL ((K.flatMap Cm.Es).map sval)) wr w') := cS.mono fun e w' ⟨e1, e2⟩ => ⟨_, e1, rfl, e2⟩
    have HI2 : Hid (∀ W1, Kp (bkL ((K.flatMap Cm.Es).map sval)) wr W1 → Calls Tryz.prog 35 #[.slice (some ⟨O4, 0, none⟩) K.length p4] W1 fun e w' => ∃ v, e = .returned v ∧ (v = .bool true ∧ Kp (bkL (K.map Cm.iv)) W1 w')) := fun W1 k1 => (HI.out W1 k1).mono fun e w' ⟨e1, e2⟩ => ⟨_, e1, rfl, e2⟩
    have HT2 : Hid (∀ W1 W2, Kp (bkL ((K.flatMap Cm.Es).map sval)) wr W1 → Kp (bkL (K.map Cm.iv)) W1 W2 → Calls Tryz.prog 36 #[.slice (some ⟨O5, 0, none⟩) K.length p5] W2 fun e w' => ∃ v, e = .returned v ∧ (v = .bool true ∧ Kp (bkL (K.map Cm.tv)) W2 w')) := fun W1 W2 k1 k2 => (HT.out W1 W2 k1 k2).mono fun e w' ⟨e1, e2⟩ => ⟨_, e1, rfl, e2⟩
    clear cS HI HT
    go_upto_region 13 with fail
    go_wp2_with (first
      | (refine wpList_callG (by rfl) 34 [.tmp 60] #[77] [.slice (some ⟨O3, 0, none⟩) (K.flatMap Cm.Es).length p3] (by rfl) (by rfl) (callA1 _) _ cS2 ?_; rintro v W1 ⟨rfl, k1⟩)
      | (refine wpList_callG (by rfl) 35 [.tmp 64] #[78] [.slice (some ⟨O4, 0, none⟩) K.length p4] (by rfl) (by rfl) (callA2 _) _ (HI2.out W1 k1) ?_; rintro v W2 ⟨rfl, k2⟩)
      | (refine wpList_callG (by rfl) 36 [.tmp 69] #[79] [.slice (some ⟨O5, 0, none⟩) K.length p5] (by rfl) (by rfl) (callA3 _) _ (HT2.out W1 W2 k1 k2) ?_; rintro v W3 ⟨rfl, k3⟩)
      | go_in)
    obtain ⟨⟨hb3, hA3⟩, hP3⟩ := HE.out W1 W2 W3 k1 k2 k3
    have HB3 : Hid (Below b w W3) := hb3
    have hb3z : b ≤ W3.heap.size := Nat.le_trans hbw hb3.size
    obtain ⟨vs, hvs⟩ : ∃ vs, K.map Cm.ev = vs := ⟨_, rfl⟩
    obtain ⟨Ls, hLs⟩ : ∃ Ls, K.map Cm.Es = Ls := ⟨_, rfl⟩
    have HO : Hid (∀ W : World, Kp (bkL vs) W3 W → ∀ m (hm : m < Ls.length), ∃ q cp, vs[m]? = some (.slice q Ls[m].length cp) ∧ W.cell? ⟨P, m * 4 + 1, none⟩ = some (.slice q Ls[m].length cp)) := fun W hW m hm => by
      subst hvs hLs
      have hmK : m < K.length := by simpa using hm
      have hl := (HEL.out m hmK).1
      have hPW := (hA3.kp hW 26 (by decide) P 0 ⟨_, hP3, Nat.zero_le _⟩).trans hP3
      obtain ⟨⟨-, c1⟩, -⟩ := cm_cells hPW m hmK
      rw [hl] at c1
      refine ⟨K[m].eq, K[m].ea, ?_, ?_⟩
      · rw [List.getElem?_map, List.getElem?_eq_getElem hmK, List.getElem_map]
        show some (Value.slice K[m].eq K[m].c.ens.length K[m].ea) = _
        rw [hl]
      · rw [List.getElem_map]
        exact c1
    have hLn : Ls.length = K.length := by rw [← hLs]; simp
    have hn : ∀ l ∈ Ls, l.length ≤ 1000 := fun l hm => by
      rw [← hLs] at hm
      obtain ⟨x, hx, rfl⟩ := List.mem_map.1 hm
      exact (HS.out x hx).1.1
    have hm : Ls.length ≤ 100 := by omega
    have H0 : Hid (Mkd mkE Ls Ls 0 0 ∧ Anq ec 5 43 W3 b Ls vs ∧ Kp (bkL vs) W3 W3) := by
      rw [hvs, hLs] at hA3
      exact ⟨Mkd.start _, hA3, Kp.refl _ _⟩
    rw [← hLn]
    clear HE k1 k2 k3 hB HI2 HT2 cS2 hA3 hP3 hLs hvs hLn HEL HS HC HPP hne hl hi hb3 hbr
    generalize W3 = w2 at *
    go_loopw [8] (fun s3 wr => ∃ (i : Nat) (C : List (List Em)), i ≤ Ls.length ∧ s3 = .int .i64 (i : Int) ∧ Hid (Mkd mkE Ls C i 0 ∧ Anq ec 5 43 wr b C vs ∧ Kp (bkL vs) w2 wr)) (fun s3 _ => Ls.length - (intOf s3).toNat)
    case atStart => exact ⟨0, Ls, Nat.zero_le _, rfl, H0⟩
    case round =>
      clear H0
      obtain ⟨i, C, hi, rfl, hS⟩ := hrel
      by_cases hlt : i < Ls.length
      · have hlt1 : (i : Int) < (Ls.length : Int) := by omega
        have i0 : (0 : Int) ≤ (i : Int) := by omega
        obtain ⟨qi, ci, hvi, hgi, -⟩ := hS.out.2.1.at hS.out.1 i hlt
        have hq := hn Ls[i] (List.getElem_mem hlt)
        have HCi : Hid (∀ W, Kp (bkL vs) w2 W → W.cell? ⟨P, i * 4 + 1, none⟩ = some (.slice qi Ls[i].length ci)) := fun W hW => by
          obtain ⟨q', c', h1, h2⟩ := HO.out W hW i hlt
          rw [hvi] at h1
          cases h1
          exact h2
        obtain ⟨q, hqe⟩ : ∃ q, Ls[i].length = q := ⟨_, rfl⟩
        have HQ : Hid (Ls[i].length = q) := hqe
        have HV : Hid (vs[i]? = some (.slice qi Ls[i].length ci)) := hvi
        rw [hqe] at hq hgi HCi
        clear hqe hvi
        go_wp2_with fail
        go_loopw [9] (fun s4 wr => ∃ (j : Nat) (C : List (List Em)), j ≤ q ∧ s4 = .int .i64 (j : Int) ∧ Hid (Mkd mkE Ls C i j ∧ Anq ec 5 43 wr b C vs ∧ Kp (bkL vs) w2 wr)) (fun s4 _ => q - (intOf s4).toNat)
        case atStart => exact ⟨0, C, Nat.zero_le _, rfl, hS⟩
        case round =>
          clear hS
          obtain ⟨j, C2, hj, rfl, hT⟩ := hrel
          obtain ⟨hM, hA, hK⟩ := hT.out
          obtain ⟨q', c', h1, -, h4⟩ := hA.at hM i hlt
          rw [HV.out] at h1
          cases h1
          rw [HQ.out] at h4
          have h2 := HCi.out wr hK
          by_cases hjq : j < q
          · obtain ⟨g, rfl⟩ := hgi (by omega)
            have hjq1 : (j : Int) < (q : Int) := by omega
            have j0 : (0 : Int) ≤ (j : Int) := by omega
            have hiC : i < C2.length := by rw [hM.len]; exact hlt
            have hCl : C2[i].length = q := (hM.lenAt i hlt).trans HQ.out
            have hbk := own_blk h4 g rfl
            obtain ⟨y0, y1, y2, y3, y4, ⟨⟨a0, a1, a2⟩, a3, a4⟩, ⟨f0, f1, f2⟩, f3, f4⟩ := there5 (hbk.there (j * 5) 5 (by omega))
            have HNX : Hid (∃ C3, Mkd mkE Ls C3 i (j + 1) ∧ Anq ec 5 43 (wr.setCells g (j * 5) (ec (mkE i j))) b C3 vs ∧ Kp (bkL vs) w2 (wr.setCells g (j * 5) (ec (mkE i j)))) := ⟨_, hM.step hiC, hA.put hcE i j g ci hiC (by omega) (by rw [hCl, ← HQ.out]; exact HV.out) (mkE i j), Kp.setCells (.inl ⟨i, _, HV.out, rfl⟩) _ _ hK⟩
            clear hM hA hK hT h4 hbk hCl hiC hgi
            obtain ⟨C3, HC3⟩ : ∃ C3, Hid (Mkd mkE Ls C3 i (j + 1) ∧ Anq ec 5 43 (wr.setCells g (j * 5) (ec (mkE i j))) b C3 vs ∧ Kp (bkL vs) w2 (wr.setCells g (j * 5) (ec (mkE i j)))) := HNX.out
            clear HNX
            go_wp2
            exact ⟨⟨j + 1, C3, by omega, by go_num, HC3⟩, by simp [intOf]; omega⟩
          · obtain rfl : j = q := by omega
            have HT2 : Hid (Mkd mkE Ls C2 (i + 1) 0 ∧ Anq ec 5 43 wr b C2 vs ∧ Kp (bkL vs) w2 wr) := ⟨hM.next (fun hi' => Nat.le_of_eq ((hM.lenAt i hlt).trans HQ.out)), hA, hK⟩
            clear hM hA hK hT h4
            go_wp2
            exact ⟨⟨i + 1, C2, by omega, by go_num, HT2⟩, by simp [intOf]; omega⟩
      obtain rfl : i = Ls.length := by omega
      have HL0 : Hid (Lg ec 5 43 mkE wr.heap.size wr b (Ls.map List.length) vs []) := Lg.startQ hS.out.2.1 hS.out.1
      have HK2 : Hid (Below b w wr) := HB3.out.trans (hS.out.2.2.below (fun _ hg => by
        obtain ⟨i', x', hx', hg'⟩ := hg
        have hi' : i' < Ls.length := by rw [← hS.out.1.len, ← hS.out.2.1.len]; exact (List.getElem?_eq_some_iff.1 hx').1
        obtain ⟨q', c', e1, -, e2⟩ := hS.out.2.1.at hS.out.1 i' hi'
        rw [hx'] at e1
        cases e1
        exact (e2.lt _ hg').1) hb3z)
      have HO2 : Hid (∀ W : World, Kp (bkL vs) wr W → ∀ m (hm : m < Ls.length), ∃ q cp, vs[m]? = some (.slice q Ls[m].length cp) ∧ W.cell? ⟨P, m * 4 + 1, none⟩ = some (.slice q Ls[m].length cp)) := fun W hW => HO.out W (hS.out.2.2.trans hW fun _ _ q => q)
      have HVB : Hid (∀ g, bkL vs g → b ≤ g) := fun g hg => by
        obtain ⟨i', x', hx', hg'⟩ := hg
        have hi' : i' < Ls.length := by rw [← hS.out.1.len, ← hS.out.2.1.len]; exact (List.getElem?_eq_some_iff.1 hx').1
        obtain ⟨q', c', e1, -, e2⟩ := hS.out.2.1.at hS.out.1 i' hi'
        rw [hx'] at e1
        cases e1
        exact (e2.lt _ hg').1
      have hbz : b ≤ wr.heap.size := Nat.le_trans hb3z hS.out.2.2.size
      clear hS hlt hi HO HB3 hb3z
      generalize wr = w4 at *
      go_wp2_with fail
      go_loopw [10, 11] (fun s5 s6 wr => ∃ (c : Nat) (us : List Value), c ≤ Ls.length ∧ us.length = c ∧ s6 = .int .i64 (c : Int) ∧ Hid (wr.ownsRow w4.heap.size 23 1 s5 c us) ∧ Hid (Lg ec 5 43 mkE w4.heap.size wr b (Ls.map List.length) vs us) ∧ Hid (Kp (bkL vs) w4 wr)) (fun _ s6 _ => Ls.length - (intOf s6).toNat)
      case atStart => exact ⟨0, [], Nat.zero_le _, rfl, rfl, World.ownsRow_nil _ _ _ _, HL0, Kp.refl _ _⟩
      case round =>
        clear HL0
        obtain ⟨c, us, hc, hus, rfl, hO5, hG, hB⟩ := hrel
        have HUS : Hid (us.length = c) := hus
        clear hus
        by_cases hci : c < Ls.length
        · have hci1 : (c : Int) < (Ls.length : Int) := by omega
          have c0 : (0 : Int) ≤ (c : Int) := by omega
          obtain ⟨qc, cc, hvc, ho⟩ := HO2.out wr hB.out c hci
          have hq := hn Ls[c] (List.getElem_mem hci)
          have hns : (Ls.map List.length)[c]? = some Ls[c].length := by rw [List.getElem?_map, List.getElem?_eq_getElem hci]; rfl
          have HCc : Hid (∀ W, Kp (fun g => (Value.slice qc Ls[c].length cc).ownBlock = some g) wr W → W.cell? ⟨P, c * 4 + 1, none⟩ = some (.slice qc Ls[c].length cc)) := fun W hW => by
            obtain ⟨q', c', h1, h2⟩ := HO2.out W (hB.out.trans hW fun i _ e => ⟨c, _, hvc, e⟩) c hci
            rw [hvc] at h1
            cases h1
            exact h2
          obtain ⟨q, hqe⟩ : ∃ q, Ls[c].length = q := ⟨_, rfl⟩
          have HNS : Hid ((Ls.map List.length)[c]? = some q) := by rw [hqe] at hns; exact hns
          have HVC : Hid (vs[c]? = some (.slice qc q cc)) := by rw [hqe] at hvc; exact hvc
          rw [hqe] at ho hq HCc
          clear hqe hns hvc
          have hzc := hB.out.size
          go_wp2_with fail
          clear ho
          generalize wr = wc at *
          have HM0 : Hid (Mo ec 5 43 mkE wc b (.slice qc q cc) c q 0 (.slice qc q cc) wc) := Mo.start (hG.out.re c _ q (Nat.le_of_eq HUS.out) HVC.out HNS.out)
          go_loopw [12, 13] (fun s7 s8 wr => ∃ (t : Nat), t ≤ 70 ∧ s8 = .int .i64 (t : Int) ∧ Hid (Mo ec 5 43 mkE wc b (.slice qc q cc) c q t s7 wr)) (fun _ s8 _ => 70 - (intOf s8).toNat)
          case atStart => exact ⟨0, by omega, rfl, HM0⟩
          case round =>
            clear HM0
            obtain ⟨t, ht, rfl, hu⟩ := hrel
            have ho := HCc.out _ hu.out.kp
            by_cases h70 : t < 70
            · have h70' : (t : Int) < 70 := by omega
              have iqt : IntKind.i64.wrap ((q : Int) + (t : Int)) = (q : Int) + (t : Int) := by rw [IntKind.wrap_i64]; omega
              have HAP : Hid (∃ v' w', (Builtin.append_ #[23, 23] 23 #[u12, .slice (some ⟨wr.heap.size, 0, none⟩) 1 1]).run Tryz.prog (wr.alloc (.cells #[.string e0, .int .i64 (c : Int), .int .i64 0, .slice none 0 0, .int .i64 ((q : Int) + (t : Int))] 43)) = .ok v' w' ∧ Hid (Mo ec 5 43 mkE wc b (.slice qc q cc) c q (t + 1) v' w')) := by
                have nb : Below wr.heap.size wr (wr.alloc (.cells #[.string e0, .int .i64 (c : Int), .int .i64 0, .slice none 0 0, .int .i64 ((q : Int) + (t : Int))] 43)) := (Below.refl _ wr).alloc (Nat.le_refl _) _
                have hr : (wr.alloc (.cells #[.string e0, .int .i64 (c : Int), .int .i64 0, .slice none 0 0, .int .i64 ((q : Int) + (t : Int))] 43)).rangeAt wr.heap.size 0 (ec (mkE c (q + t))) := fun j u hj => by
                  have e := World.alloc_heap_new wr (.cells #[.string e0, .int .i64 (c : Int), .int .i64 0, .slice none 0 0, .int .i64 ((q : Int) + (t : Int))] 43)
                  rw [Nat.zero_add]
                  simp only [World.cell?, e]
                  simpa [ec, mkE] using hj
                have hM := hu.out.next nb
                exact hM.app 23 23 _ 64 Tryz.underlying23 infoEnt rfl (by decide) (by decide) hcE ec_one wr.heap.size hr (by omega) (Nat.le_trans hbz (Nat.le_trans hzc hM.kp.size))
              obtain ⟨v', w', hrun, how'⟩ := HAP.out
              clear hu HAP
              go_wp2_with (first
                | (at_builtin; refine wpList_apr rfl (.tmp 114) (.tmp 125) 23 rfl hrun ?_)
                | go_in)
              exact ⟨⟨t + 1, by omega, by go_num, how'⟩, by simp [intOf]; omega⟩
            · obtain rfl : t = 70 := by omega
              obtain ⟨o7, c7, rfl, -, -⟩ := own_slice hu.out.own
              have HAP : Hid (∃ v' w', (Builtin.append_ #[83, 83] 83 #[u10, .slice (some ⟨wr.heap.size, 0, none⟩) 1 1]).run Tryz.prog (wr.alloc (.cells #[.slice o7 (q + 70) c7] 23)) = .ok v' w' ∧ Hid (w'.ownsRow w4.heap.size 23 1 v' (c + 1) (us ++ [.slice o7 (q + 70) c7])) ∧ Hid (Lg ec 5 43 mkE w4.heap.size w' b (Ls.map List.length) vs (us ++ [.slice o7 (q + 70) c7])) ∧ Hid (Kp (bkL vs) w4 w')) := by
                have nb : Below wr.heap.size wr (wr.alloc (.cells #[.slice o7 (q + 70) c7] 23)) := (Below.refl _ wr).alloc (Nat.le_refl _) _
                have hL := (hG.out.more HUS.out HVC.out HNS.out hu.out).next nb
                have hK : Kp (bkL vs) w4 (wr.alloc (.cells #[.slice o7 (q + 70) c7] 23)) := (hB.out.trans hu.out.kp fun i _ e => ⟨c, _, HVC.out, e⟩).next nb
                have h5 : wr.ownsRow w4.heap.size 23 1 u10 c us := own_same hO5.out fun g hg => hu.out.kp.block g (own_blk hO5.out g hg).lt fun e => (own_blk hO5.out g hg).ne (hG.out.vb c _ g HVC.out e).2 (by decide) rfl
                have ho5 := own_next h5 nb
                obtain ⟨v', w', e1, e2, e3⟩ := app_any (P := Tryz.prog) 83 83 (.slice none 0 0) 24 Tryz.underlying83 infoLE rfl (by decide) (by decide) u10 c us ho5 wr.heap.size [.slice o7 (q + 70) c7] rfl (one_sl _ _ _) (fun j u hj => by
                  have e := World.alloc_heap_new wr (.cells #[.slice o7 (q + 70) c7] 23)
                  rw [Nat.zero_add]
                  simp only [World.cell?, e]
                  simpa using hj) (by omega) hK.size
                exact ⟨v', w', e1, e2, hL.keep (fun g n hb => e3.block g hb.lt fun e => own_ne ho5 hb (by decide) e.symm) (Nat.le_trans hK.size e3.size), hK.grown e3 fun k hk => .inr (ho5.lt k hk).1⟩
              obtain ⟨v', w', hrun, e2, e3, e4⟩ := HAP.out
              have HUS2 : Hid ((us ++ [Value.slice o7 (q + 70) c7]).length = c + 1) := by show (us ++ [Value.slice o7 (q + 70) c7]).length = c + 1; rw [List.length_append, HUS.out]; rfl
              clear HAP hu ho
              go_wp2_with (at_builtin; refine wpList_apr rfl (.tmp 127) (.tmp 129) 83 rfl hrun ?_)
              exact ⟨⟨c + 1, _, by omega, HUS2.out, by go_num, e2, e3, e4⟩, by simp [intOf]; omega⟩
        obtain rfl : c = Ls.length := by omega
        obtain ⟨o5, cap5, rfl, -, -⟩ := own_slice hO5.out
        have H3 : Hid (∀ d (hd : d < Ls.length), ∃ h5 gx cx qd cd, o5 = some ⟨h5, 0, none⟩ ∧ wr.cell? ⟨h5, d, none⟩ = some (.slice (some ⟨gx, 0, none⟩) (Ls[d].length + 70) cx) ∧ (∀ j, j < Ls[d].length + 70 → wr.cell? ⟨gx, j * 5 + 1, none⟩ = some (.int .i64 (d : Int)) ∧ wr.cell? ⟨gx, j * 5 + 4, none⟩ = some (.int .i64 (j : Int))) ∧ wr.cell? ⟨P, d * 4 + 1, none⟩ = some (.slice qd Ls[d].length cd) ∧ (0 < Ls[d].length → ∃ g, qd = some ⟨g, 0, none⟩ ∧ ∀ j, j < Ls[d].length → wr.cell? ⟨g, j * 5 + 1, none⟩ = some (.int .i64 (d : Int)))) := fun d hd => by
          obtain ⟨q5, c5, e5, _, hr5⟩ := own_slice hO5.out
          cases e5
          obtain ⟨h5, rfl, hr⟩ := hr5 (by omega)
          have hdl : d < us.length := by rw [HUS.out]; exact hd
          have hx := List.getElem?_eq_getElem hdl
          have hnd : (Ls.map List.length)[d]? = some Ls[d].length := by rw [List.getElem?_map, List.getElem?_eq_getElem hd]; rfl
          have hox := hG.out.up d us[d] Ls[d].length hx hnd
          obtain ⟨qx, cx, ex, _, hrx⟩ := own_slice hox
          obtain ⟨gx, rfl, hrr⟩ := hrx (by omega)
          have hcell := hr d us[d] hx
          rw [Nat.zero_add, ex] at hcell
          obtain ⟨qd, cd, hv, ho⟩ := HO2.out wr hB.out d hd
          obtain ⟨q', c', e', hl⟩ := hG.out.lo d _ _ hv hnd
          cases e'
          refine ⟨h5, gx, cx, qd, cd, rfl, hcell, fun j hj => ⟨mks_get hcE hrr j hj 1 _ rfl, mks_get hcE hrr j hj 4 _ rfl⟩, ho, fun h0 => ?_⟩
          obtain ⟨g, rfl, hg⟩ := hl h0
          exact ⟨g, rfl, fun j hj => mks_get hcE hg j hj 1 _ rfl⟩
        have HK3 : Hid (Below b w wr) := HK2.out.trans (hB.out.below HVB.out hbz)
        clear hO5 hG HUS hci hc hB HO2 HVB HK2
        generalize wr = w5 at *
        go_wp2_with fail
        go_loopw [14] (fun s9 wr => ∃ d : Nat, d ≤ Ls.length ∧ s9 = .int .i64 (d : Int) ∧ wr = w5) (fun s9 _ => Ls.length - (intOf s9).toNat)
        case atStart => exact ⟨0, Nat.zero_le _, rfl, rfl⟩
        case round =>
          obtain ⟨d, hd, rfl, rfl⟩ := hrel
          by_cases hdl : d < Ls.length
          · have hdl1 : (d : Int) < (Ls.length : Int) := by omega
            have d0 : (0 : Int) ≤ (d : Int) := by omega
            obtain ⟨h5, gx, cx, qd, cd, rfl, k5, kx, kO, kv⟩ := H3.out d hdl
            have hq := hn Ls[d] (List.getElem_mem hdl)
            generalize Ls[d].length = q at k5 kx kO kv hq
            go_wp2_with fail
            go_loopw [15] (fun s10 wx => ∃ j : Nat, j ≤ q + 70 ∧ s10 = .int .i64 (j : Int) ∧ wx = wr) (fun s10 _ => q + 70 - (intOf s10).toNat)
            case atStart => exact ⟨0, Nat.zero_le _, rfl, rfl⟩
            case round =>
              obtain ⟨j, hj, rfl, rfl⟩ := hrel
              by_cases hjq : j < q + 70
              · have hjq1 : (j : Int) < ((q + 70 : Nat) : Int) := by omega
                have hjq2 : (j : Int) < (q : Int) + 70 := by omega
                have j0 : (0 : Int) ≤ (j : Int) := by omega
                obtain ⟨p1, p4⟩ := kx j hjq
                by_cases hjn : j < q
                · obtain ⟨g, rfl, kg'⟩ := kv (by omega)
                  have hjn1 : (j : Int) < (q : Int) := by omega
                  have hjn2 : decide ((j : Int) < (q : Int)) = true := decide_eq_true hjn1
                  have r1 := kg' j hjn
                  go_wp2
                  exact ⟨⟨j + 1, by omega, by go_num, trivial⟩, by simp [intOf]; omega⟩
                · have hjn1 : ¬ ((j : Int) < (q : Int)) := by omega
                  have hjn2 : decide ((j : Int) < (q : Int)) = false := decide_eq_false hjn1
                  go_wp2
                  exact ⟨⟨j + 1, by omega, by go_num, trivial⟩, by simp [intOf]; omega⟩
              · obtain rfl : j = q + 70 := by omega
                go_wp2
                exact ⟨⟨d + 1, by omega, by go_num, trivial⟩, by simp [intOf]; omega⟩
          · obtain rfl : d = Ls.length := by omega
            have hji : ¬ ((Ls.length : Int) < (Ls.length : Int)) := by omega
            go_wp2
            first | (change bodyPost Tryz.prog Tryz.f12 _ Exit.ret _ _) | (simp only [Exit.noGoto])
            go_ret
            exact ⟨rfl, HK3.out⟩
end Go.Proofs.YtcjnejdemfemfaaGreatDoor

