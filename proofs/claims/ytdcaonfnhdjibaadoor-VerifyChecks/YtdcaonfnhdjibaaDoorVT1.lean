import Derived.Test.YtdcaonfnhdjibaaDoorVS1
namespace Go.Proofs.YtdcaonfnhdjibaaDoor
open Go.RowKit

/-! A list with a mark behind it: append(append([]T{}, l...), x)[:len(l)], in whatever order. -/
section
variable {P : Program} {e : TypeId} {size : Nat}
/-- What lies elsewhere, appended. -/
theorem app_src (t ty : TypeId) (z : Value) (bytes : Nat) (ht : P.underlying t = some (.slice e)) (hinf : (P.info? e).map (fun i => (i.zero, i.size, i.bytes)) = some (some z, size, bytes)) (hzs : z.cells.size = size) (hsz : 0 < size) (hby : 1 ≤ bytes)
    {w : World} {base G n cap : Nat} {xs : List Value} (hown : w.ownsRow base e size (.slice (some ⟨G, 0, none⟩) n cap) n xs) (q : Option Addr) (m c : Nat) (ys : List Value) (hl : ys.length = m * size) (hq : q = none → m = 0) (hr : 0 < m → ∃ g o, q = some ⟨g, o, none⟩ ∧ w.rangeAt g o ys) (h1 : ∀ u ∈ ys, u.oneCell' = true) (h40 : (n + m) * bytes ≤ 140737488355328) (hbase : base ≤ w.heap.size) :
    ∃ G' cap' w', (Builtin.append_ #[t, t] ty #[.slice (some ⟨G, 0, none⟩) n cap, .slice q m c]).run P w = .ok (.slice (some ⟨G', 0, none⟩) (n + m) cap') w' ∧ w'.ownsRow base e size (.slice (some ⟨G', 0, none⟩) (n + m) cap') (n + m) (xs ++ ys) ∧ w.grownBy w' (some G) := by
  obtain ⟨i, hi, hz0, hz1, hz2⟩ := info_parts hinf
  have hb : (n + m) * bytes ≤ 140737488355328 := h40
  have hnm : n + m ≤ 140737488355328 := Nat.le_trans (Nat.le_mul_of_pos_right (n + m) hby) hb
  cases q with
  | none =>
    obtain rfl := hq rfl
    obtain rfl : ys = [] := List.length_eq_zero_iff.1 (by rw [hl, Nat.zero_mul])
    refine ⟨G, cap, w, ?_, by rw [List.append_nil]; exact hown, World.grownBy.refl w _⟩
    rcases hown.2 with ⟨q, _⟩ | ⟨g, cap', cur, hv, _, _, hnc, _⟩
    · cases q
    · cases hv
      simp [Builtin.append_, run_underlying ht, sizeOf, typeInfo, hi, Builtin.lenOf, Builtin.firstCells, hnc, storeCells]
  | some a =>
    have hnews : ∀ j u, ys[j]? = some u → w.cell? (a.add j) = some u := fun j u hu => by
      rcases Nat.eq_zero_or_pos m with rfl | hm
      · obtain rfl : ys = [] := List.length_eq_zero_iff.1 (by rw [hl, Nat.zero_mul])
        cases hu
      · obtain ⟨g, o, hq, hg⟩ := hr hm
        cases hq
        rw [Addr.add_mid]
        exact hg j u hu
    obtain ⟨v', w', hr, h2, h3, h4⟩ := run_append_own (P := P) w base t ty e i z size bytes ht hi hz0 hz1 hz2 hzs hsz _ n xs hown a m c ys hl hnews h1 (by unfold maxLen; omega) hb hbase
    rcases h2.2 with ⟨q, -⟩ | ⟨G', cap', cur, rfl, -⟩
    · have := (h4.1 q).1
      cases this
    · exact ⟨G', cap', w', hr, h2, h3⟩
/-- The mark behind it. -/
theorem app_mark (t ty : TypeId) (z : Value) (bytes : Nat) (ht : P.underlying t = some (.slice e)) (hinf : (P.info? e).map (fun i => (i.zero, i.size, i.bytes)) = some (some z, size, bytes)) (hzs : z.cells.size = size) (hsz : 0 < size) (hby : 1 ≤ bytes)
    {w : World} {base G n cap : Nat} {xs : List Value} (hown : w.ownsRow base e size (.slice (some ⟨G, 0, none⟩) n cap) n xs) (g : Nat) (C : List Value) (hC : C.length = size) (h1 : ∀ u ∈ C, u.oneCell' = true) (hr : w.rangeAt g 0 C) (h40 : (n + 1) * bytes ≤ 140737488355328) (hbase : base ≤ w.heap.size) :
    ∃ G' cap' w', (Builtin.append_ #[t, t] ty #[.slice (some ⟨G, 0, none⟩) n cap, .slice (some ⟨g, 0, none⟩) 1 1]).run P w = .ok (.slice (some ⟨G', 0, none⟩) (n + 1) cap') w' ∧ w'.ownsRow base e size (.slice (some ⟨G', 0, none⟩) (n + 1) cap') (n + 1) (xs ++ C) ∧ w.grownBy w' (some G) :=
  app_src t ty z bytes ht hinf hzs hsz hby hown (some ⟨g, 0, none⟩) 1 1 C (by rw [hC, Nat.one_mul]) (fun h => by cases h) (fun _ => ⟨g, 0, rfl, hr⟩) h1 h40 hbase
theorem own_empty (X : World) : (X.alloc (.cells #[] e)).ownsRow X.heap.size e size (.slice (some ⟨X.heap.size, 0, none⟩) 0 0) 0 [] :=
  ⟨by simp, .inr ⟨X.heap.size, 0, #[], rfl, Nat.le_refl _, World.alloc_heap_new X _, Nat.le_refl _, Nat.zero_le _, by simp, by simp⟩⟩
/-- What is there behind it. -/
structure Mk (X W : World) (e : TypeId) (size G cap n : Nat) (xs : List Value) : Prop where
  own : W.ownsRow X.heap.size e size (.slice (some ⟨G, 0, none⟩) (n + 1) cap) (n + 1) xs
  b : Below X.heap.size X W
theorem Mk.le {X W : World} {G cap n : Nat} {xs : List Value} (h : Mk X W e size G cap n xs) : n + 1 ≤ cap := by
  rcases h.own.2 with ⟨q, _⟩ | ⟨g, cap', cur, hv, _, _, hnc, _⟩
  · cases q
  · cases hv; exact hnc
theorem dup_a (t : TypeId) (z : Value) (bytes : Nat) (ht : P.underlying t = some (.slice e)) (hinf : (P.info? e).map (fun i => (i.zero, i.size, i.bytes)) = some (some z, size, bytes)) (hzs : z.cells.size = size) (hsz : 0 < size) (hby : 1 ≤ bytes)
    (X : World) (q : Option Addr) (n c B : Nat) (ys : List Value) (hl : ys.length = n * size) (hq : q = none → n = 0) (hr : Row X B q n ys) (hB : B ≤ X.heap.size) (h1 : ∀ u ∈ ys, u.oneCell' = true) (C : Array Value) (hC : C.size = size) (hC1 : ∀ u ∈ C.toList, u.oneCell' = true) (h40 : (n + 1) * bytes ≤ 140737488355328) :
    ∃ G1 c1 w1 G2 c2 w2, (Builtin.append_ #[t, t] t #[.slice (some ⟨X.heap.size, 0, none⟩) 0 0, .slice q n c]).run P (X.alloc (.cells #[] e)).drew = .ok (.slice (some ⟨G1, 0, none⟩) n c1) w1 ∧ Below X.heap.size X w1 ∧
      (Builtin.append_ #[t, t] t #[.slice (some ⟨G1, 0, none⟩) n c1, .slice (some ⟨w1.heap.size, 0, none⟩) 1 1]).run P (w1.alloc (.cells C e)) = .ok (.slice (some ⟨G2, 0, none⟩) (n + 1) c2) w2 ∧ Mk X w2 e size G2 c2 n (ys ++ C.toList) := by
  have b0 : Below X.heap.size X (X.alloc (.cells #[] e)).drew := ((Below.refl _ X).alloc (Nat.le_refl _) _).drew
  have o0 : (X.alloc (.cells #[] e)).drew.ownsRow X.heap.size e size (.slice (some ⟨X.heap.size, 0, none⟩) 0 0) 0 [] := own_next (own_empty X) (Below.refl _ _).drew
  obtain ⟨G1, c1, w1, r1, o1, g1⟩ := app_src t t z bytes ht hinf hzs hsz hby o0 q n c ys hl hq (fun hn => by
    obtain ⟨g, o, e1, -, e2⟩ := (hr.below b0 hB) hn
    exact ⟨g, o, e1, e2⟩) h1 (by rw [Nat.zero_add]; exact Nat.le_trans (Nat.mul_le_mul_right _ (Nat.le_succ n)) h40) b0.size
  rw [Nat.zero_add] at r1 o1
  rw [List.nil_append] at o1
  have k1 : Below X.heap.size X w1 := b0.trans ((Below.refl _ _).grown g1 b0.size fun x hx => by cases hx; exact Nat.le_refl _)
  have b1 : Below w1.heap.size w1 (w1.alloc (.cells C e)) := (Below.refl _ w1).alloc (Nat.le_refl _) _
  obtain ⟨G2, c2, w2, r2, o2, g2⟩ := app_mark t t z bytes ht hinf hzs hsz hby (own_next o1 b1) w1.heap.size C.toList (by simpa using hC) hC1 (fun j u hu => by
    rw [Nat.zero_add]
    simp only [World.cell?, World.alloc_heap_new w1]
    simpa using hu) h40 (Nat.le_trans k1.size b1.size)
  have k2 : Below X.heap.size X (w1.alloc (.cells C e)) := below2 k1 b1
  exact ⟨G1, c1, w1, G2, c2, w2, r1, k1, r2, o2, k2.trans ((Below.refl _ _).grown g2 k2.size fun x hx => by cases hx; exact (o1.lt _ rfl).1)⟩
theorem dup_b (t : TypeId) (z : Value) (bytes : Nat) (ht : P.underlying t = some (.slice e)) (hinf : (P.info? e).map (fun i => (i.zero, i.size, i.bytes)) = some (some z, size, bytes)) (hzs : z.cells.size = size) (hsz : 0 < size) (hby : 1 ≤ bytes)
    (X Y : World) (E S : Nat) (bY : Below X.heap.size X Y) (hE : Y.heap[E]? = some (.cells #[] e)) (C : Array Value) (hS : Y.heap[S]? = some (.cells C e)) (hE0 : X.heap.size ≤ E) (hES : E ≠ S) (q : Option Addr) (n c B : Nat) (ys : List Value) (hl : ys.length = n * size) (hq : q = none → n = 0) (hr : Row X B q n ys) (hB : B ≤ X.heap.size) (h1 : ∀ u ∈ ys, u.oneCell' = true) (hC : C.size = size) (hC1 : ∀ u ∈ C.toList, u.oneCell' = true) (h40 : (n + 1) * bytes ≤ 140737488355328) :
    ∃ G1 c1 w1 G2 c2 w2, (Builtin.append_ #[t, t] t #[.slice (some ⟨E, 0, none⟩) 0 0, .slice q n c]).run P Y = .ok (.slice (some ⟨G1, 0, none⟩) n c1) w1 ∧ Below X.heap.size X w1 ∧
      (Builtin.append_ #[t, t] t #[.slice (some ⟨G1, 0, none⟩) n c1, .slice (some ⟨S, 0, none⟩) 1 1]).run P w1 = .ok (.slice (some ⟨G2, 0, none⟩) (n + 1) c2) w2 ∧ Mk X w2 e size G2 c2 n (ys ++ C.toList) := by
  have o0 : Y.ownsRow X.heap.size e size (.slice (some ⟨E, 0, none⟩) 0 0) 0 [] := ⟨by simp, .inr ⟨E, 0, #[], rfl, hE0, hE, Nat.le_refl _, Nat.zero_le _, by simp, by simp⟩⟩
  obtain ⟨G1, c1, w1, r1, o1, g1⟩ := app_src t t z bytes ht hinf hzs hsz hby o0 q n c ys hl hq (fun hn => by
    obtain ⟨g, o, e1, -, e2⟩ := (hr.below bY hB) hn
    exact ⟨g, o, e1, e2⟩) h1 (by rw [Nat.zero_add]; exact Nat.le_trans (Nat.mul_le_mul_right _ (Nat.le_succ n)) h40) bY.size
  rw [Nat.zero_add] at r1 o1
  rw [List.nil_append] at o1
  have k1 : Below X.heap.size X w1 := bY.trans ((Below.refl _ _).grown g1 bY.size fun x hx => by cases hx; exact hE0)
  have hS1 : w1.heap[S]? = some (.cells C e) := (g1.block S (Array.getElem?_eq_some_iff.1 hS).1 (fun h => hES (by cases h; rfl))).trans hS
  obtain ⟨G2, c2, w2, r2, o2, g2⟩ := app_mark t t z bytes ht hinf hzs hsz hby o1 S C.toList (by simpa using hC) hC1 (fun j u hu => by
    rw [Nat.zero_add]
    simp only [World.cell?, hS1]
    simpa using hu) h40 k1.size
  exact ⟨G1, c1, w1, G2, c2, w2, r1, k1, r2, o2, k1.trans ((Below.refl _ _).grown g2 k1.size fun x hx => by cases hx; exact (o1.lt _ rfl).1)⟩
end
theorem wpList_appV {P : Program} (t e : TypeId) (z : Value) (size bytes : Nat) (ht : P.underlying t = some (.slice e)) (hinf : (P.info? e).map (fun i => (i.zero, i.size, i.bytes)) = some (some z, size, bytes)) (hzs : z.cells.size = size) (hsz : 0 < size) (hby : 1 ≤ bytes)
    {w : World} {ops : Array Oper} {rest : List Oper} {o : Oper} {a : Act} {Q : Exit → Act → World → Prop} (hgd : o.guard = none) (s x : Operand)
    (ho : o.op = .call { callee := .builtin .append, args := #[s, x], argTypes := #[t, t] })
    (base : Nat) (v : Value) (n : Nat) (xs : List Value) (hs : a.eval s = v) (hown : w.ownsRow base e size v n xs) (C : Array Value) (hC : C.size = size) (h1 : ∀ u ∈ C.toList, u.oneCell' = true) (hx : a.eval x = .slice (some ⟨w.heap.size, 0, none⟩) 1 1)
    (h40 : (n + 1) * bytes ≤ 140737488355328) (hbase : base ≤ w.heap.size)
    (h : ∀ v' w', Hid (w'.ownsRow base e size v' (n + 1) (xs ++ C.toList)) → Hid ((w.alloc (.cells C e)).grownBy w' v.ownBlock ∧ (v'.ownBlock = v.ownBlock ∨ v'.ownBlock = some (w.heap.size + 1))) → wpList P ops Q rest (a.put o.dst v') w') : wpList P ops Q (o :: rest) a (w.alloc (.cells C e)) := by
  obtain ⟨i0, hi, hz0, hz1, hz2⟩ := info_parts hinf
  have ho2 := World.ownsRow.alloc hown (.cells C e)
  have hb : (n + 1) * bytes ≤ 140737488355328 := h40
  have hnm : n + 1 ≤ 140737488355328 := Nat.le_trans (Nat.le_mul_of_pos_right (n + 1) hby) hb
  obtain ⟨v', w', hr, h2, h3, _, h4⟩ := run_append_own_at (P := P) (w.alloc (.cells C e)) base t o.type e i0 z size bytes ht hi hz0 hz1 hz2 hzs hsz v n xs ho2 ⟨w.heap.size, 0, none⟩ 1 1 C.toList (by rw [Nat.one_mul]; simpa using hC)
    (fun j u hu => by rw [Addr.add_mid, Nat.zero_add]; simp only [World.cell?, heap_alloc_new w _]; simpa using hu) h1 (by unfold maxLen; omega) hb (by simp; omega)
  rw [World.size_alloc] at h4
  refine wpList_plain hgd fun K hK => ?_
  unfold Oper.wp execOp
  simp only [ho, resolve, invoke, builtin, Sem.run_bind, Sem.run_pure, Result.andThen_ok, List.map_toArray, List.map_cons, List.map_nil, hs, hx, hr]
  exact hK _ _ (h v' w' h2 ⟨h3, h4⟩)

theorem app_anyW {P : Program} {e : TypeId} {size : Nat} {w : World} {base : Nat} (t ty : TypeId) (z : Value) (bytes : Nat) (ht : P.underlying t = some (.slice e)) (hinf : (P.info? e).map (fun i => (i.zero, i.size, i.bytes)) = some (some z, size, bytes)) (hzs : z.cells.size = size) (hsz : 0 < size) (hby : 1 ≤ bytes)
    (v : Value) (n : Nat) (xs : List Value) (hown : w.ownsRow base e size v n xs) (g : Nat) (C : List Value) (hC : C.length = size) (h1 : ∀ u ∈ C, u.oneCell' = true) (hr : w.rangeAt g 0 C) (h40 : (n + 1) * bytes ≤ 140737488355328) (hbase : base ≤ w.heap.size) :
    ∃ v' w', (Builtin.append_ #[t, t] ty #[v, .slice (some ⟨g, 0, none⟩) 1 1]).run P w = .ok v' w' ∧ w'.ownsRow base e size v' (n + 1) (xs ++ C) ∧ w.grownBy w' v.ownBlock := by
  obtain ⟨i, hi, hz0, hz1, hz2⟩ := info_parts hinf
  have hnm : n + 1 ≤ 140737488355328 := Nat.le_trans (Nat.le_mul_of_pos_right (n + 1) hby) h40
  obtain ⟨v', w', hr, h2, h3, _⟩ := run_append_own (P := P) w base t ty e i z size bytes ht hi hz0 hz1 hz2 hzs hsz v n xs hown ⟨g, 0, none⟩ 1 1 C (by rw [Nat.one_mul]; exact hC)
    (fun j u hu => by rw [Addr.add_mid]; exact hr j u hu) h1 (by unfold maxLen; omega) h40 hbase
  exact ⟨v', w', hr, h2, h3⟩
section
variable {P : Program} {e : TypeId} {size : Nat}
/-- An append whose run is known, at a step of a region that draws. -/
theorem step_apr {ops : Array Oper} {o : Oper} {a : Act} {w : World} {K : Act → World → Prop} {Q : Exit → Act → World → Prop} {E : Prop} {v' : Value} {w' : World} (hgd : o.guard = none) (s x : Operand) (t : TypeId)
    (ho : o.op = .call { callee := .builtin .append, args := #[s, x], argTypes := #[t, t] }) (ht : o.type = t) (vs vx : Value) (hr : (Builtin.append_ #[t, t] t #[vs, vx]).run P w = .ok v' w') (hs : a.eval s = vs) (hx : a.eval x = vx)
    (h : K (a.put o.dst v') w') : if Region.wanted o (yielded ops a.tmps) = true then Oper.wp P o a w K Q else E := by
  have hw : Region.wanted o (yielded ops a.tmps) = true := by simp [Region.wanted, hgd]
  rw [if_pos hw]
  unfold Oper.wp execOp
  simp only [ho, resolve, invoke, builtin, Sem.run_bind, Sem.run_pure, Result.andThen_ok, List.map_toArray, List.map_cons, List.map_nil, hs, hx, ht, hr]
  exact h
end
end Go.Proofs.YtdcaonfnhdjibaaDoor
namespace Go.Proofs.YtdcaonfnhdjibaaDoor
open Go.RowKit

/-! A region that draws, whose last operation L waits for all others and may undo what they lean on: T holds behind every operation but L. -/
section
variable {P : Program} {ops : Array Oper} {Q : Exit → Act → World → Prop} {md : Region.Mode} {T : World → Prop} {L : Nat}
def wpAnyT (P : Program) (md : Region.Mode) (ops : Array Oper) (Q : Exit → Act → World → Prop) (T : World → Prop) (L : Nat) : Nat → Array Bool → Act → World → Prop
  | 0, listed, a, w => Region.ready md ops listed = [] ∧ Q .normal a w
  | fuel + 1, listed, a, w => (Region.ready md ops listed = [] → Q .normal a w) ∧ ∀ i ∈ Region.ready md ops listed, wpOp P ops Q i (fun a' w' => (i ≠ L → T w') ∧ wpAnyT P md ops Q T L fuel (listed.setIfInBounds i true) a' w') a w
theorem any_of_T : ∀ (fuel : Nat) (listed : Array Bool) (a : Act) (w : World), wpAnyT P md ops Q T L fuel listed a w → wpAny P md ops Q fuel listed a w
  | 0, _, _, _, h => h
  | fuel + 1, _, _, _, h => ⟨h.1, fun i hi => wpOp_mono (fun a' w' k => any_of_T fuel _ a' w' k.2) (h.2 i hi)⟩
theorem T_first {i : Nat} {oi oL : Oper} {v : Value} (hi : ops[i]? = some oi) (hsel : ∀ (j : Nat) (o : Oper) cs b, ops[j]? = some o → o.op ≠ .select cs b) (hQ : ∀ c a w, Q (.panic c) (a.put oi.dst v) w → Q (.panic c) a w)
    (hL : ops[L]? = some oL) (hne : i ≠ L) (hwt : ∃ e ∈ oL.after, Region.binds md e = true ∧ e.on = i) : ∀ (fuel : Nat) (listed : Array Bool) (a : Act) (w : World),
      (∀ j oj, ops[j]? = some oj → j ≠ i → listed.getD j true = false → (∀ e ∈ oj.after, Region.binds md e = true → e.on ≠ i) → oi.apart ops oj = true) →
      i ∈ Region.ready md ops listed → YieldsIf P ops T oi v a → T w → wpAnyT P md ops Q T L fuel (listed.setIfInBounds i true) (a.put oi.dst v) w → wpAnyT P md ops Q T L (fuel + 1) listed a w := by
  have waits : ∀ {listed : Array Bool} {j : Nat} {oj : Oper}, i ∈ Region.ready md ops listed → j ∈ Region.ready md ops listed → ops[j]? = some oj → ∀ e ∈ oj.after, Region.binds md e = true → e.on ≠ i := fun {listed j oj} hr hj hoj e he hb hq => by
    obtain ⟨-, o', ho', hall⟩ := mem_ready.1 hj
    rw [hoj] at ho'
    cases ho'
    have h1 := hall e he hb
    have h0 := (mem_ready.1 hr).1
    rw [hq] at h1
    rw [Array.getD_eq_getD_getElem?] at h0 h1
    cases hx : listed[i]? with
    | none => rw [hx] at h1; cases h1
    | some b => rw [hx] at h0 h1; simp at h0 h1; rw [h0] at h1; cases h1
  intro fuel
  induction fuel with
  | zero =>
    intro listed a w _ hr hy hT H
    refine ⟨fun h => (by rw [h] at hr; cases hr), fun j hj => ?_⟩
    by_cases hji : j = i
    · subst hji
      exact hy.wpOp hi hT ⟨fun _ => hT, H⟩
    · have := ready_mono hj hji
      rw [H.1] at this
      cases this
  | succ fuel ih =>
    intro listed a w hfree hr hy hT H
    refine ⟨fun h => (by rw [h] at hr; cases hr), fun j hj => ?_⟩
    by_cases hji : j = i
    · subst hji
      exact hy.wpOp hi hT ⟨fun _ => hT, H⟩
    · obtain ⟨hjun, oj, hoj, -⟩ := mem_ready.1 hj
      have hno := waits hr hj hoj
      have hjL : j ≠ L := fun e => by
        subst e
        rw [hL] at hoj
        cases hoj
        obtain ⟨e, he, hb, hq⟩ := hwt
        exact hno e he hb hq
      have h2 := wpOp_putIf hoj (hfree j oj hoj hji hjun hno) (fun cs b => hsel i oi cs b hi) (fun cs b => hsel j oj cs b hoj) hQ hy (H.2 j (ready_mono hj hji))
      refine wpOp_mono (fun a' w' k => ⟨fun _ => k.2.1 hjL, ih (listed.setIfInBounds j true) a' w' (fun x ox hx hxi hun hxo => hfree x ox hx hxi ?_ hxo) (ready_mono hr (Ne.symm hji)) k.1 (k.2.1 hjL) ?_⟩) h2
      · by_cases hjx : j = x
        · subst hjx; exact hjun
        · rw [getD_set_ne true hjx] at hun; exact hun
      · rw [Array.setIfInBounds_comm _ _ hji]
        exact k.2.2
theorem T_take {i : Nat} {oi oL : Oper} {v : Value} {fuel : Nat} {listed : Array Bool} {a : Act} {w : World} (hi : ops[i]? = some oi) (hL : ops[L]? = some oL) (hwt : (i != L && oL.after.any fun e => Region.binds md e && e.on == i) = true)
    (hs : Region.noSelect ops = true) (hf : Region.free md ops listed i = true) (hr : (Region.ready md ops listed).contains i = true) (hQ : ∀ c a w, Q (.panic c) (a.put oi.dst v) w → Q (.panic c) a w) (hy : YieldsIf P ops T oi v a) (hT : T w)
    (h : wpAnyT P md ops Q T L fuel (listed.setIfInBounds i true) (a.put oi.dst v) w) : wpAnyT P md ops Q T L (fuel + 1) listed a w := by
  simp only [Bool.and_eq_true, bne_iff_ne, ne_eq, Array.any_eq_true', beq_iff_eq] at hwt
  exact T_first hi (Region.noSelect_spec hs) hQ hL hwt.1 hwt.2 fuel listed a w (Region.free_spec hi hf) (by simpa using hr) hy hT h
theorem T_ready {rs : List Nat} {fuel : Nat} {listed : Array Bool} {a : Act} {w : World} (hr : Region.ready md ops listed = rs) (hne : rs ≠ [])
    (h : ∀ i ∈ rs, wpOp P ops Q i (fun a' w' => (i ≠ L → T w') ∧ wpAnyT P md ops Q T L fuel (listed.setIfInBounds i true) a' w') a w) : wpAnyT P md ops Q T L (fuel + 1) listed a w := ⟨fun h0 => absurd (hr ▸ h0) hne, hr ▸ h⟩
theorem T_done {listed : Array Bool} {a : Act} {w : World} (hr : Region.ready md ops listed = []) (h : Q .normal a w) : ∀ fuel, wpAnyT P md ops Q T L fuel listed a w
  | 0 => ⟨hr, h⟩
  | _ + 1 => ⟨fun _ => h, by rw [hr]; simp⟩
theorem T_op {i : Nat} {o : Oper} {K : Act → World → Prop} {a : Act} {w w' : World} {v : Value} (ho : ops[i]? = some o) (hg : o.guard = none) (hr : (execOp a.eval o).run P w = .ok (.value v) w') (h : K (a.put o.dst v) w') : wpOp P ops Q i K a w := by
  unfold wpOp
  rw [ho]
  simp only [Region.wanted, hg, if_true]
  refine .inl ?_
  unfold Oper.wp
  rw [hr]
  exact h
theorem T_skip {i : Nat} {o : Oper} {K : Act → World → Prop} {a : Act} {w w' : World} (ho : ops[i]? = some o) (hg : o.guard = none) (hr : (execOp a.eval o).run P w = .ok .skip w') (h : K (a.put o.dst undef) w') : wpOp P ops Q i K a w := by
  unfold wpOp
  rw [ho]
  simp only [Region.wanted, hg, if_true]
  refine .inl ?_
  unfold Oper.wp
  rw [hr]
  exact h
theorem run_apr {o : Oper} {a : Act} {w w' : World} {v' : Value} (s x : Operand) (t : TypeId) (ho : o.op = .call { callee := .builtin .append, args := #[s, x], argTypes := #[t, t] }) (ht : o.type = t) (vs vx : Value) (hs : a.eval s = vs) (hx : a.eval x = vx)
    (hr : (Builtin.append_ #[t, t] t #[vs, vx]).run P w = .ok v' w') : (execOp a.eval o).run P w = .ok (.value v') w' := by
  unfold execOp
  simp only [ho, resolve, invoke, builtin, Sem.run_bind, Sem.run_pure, Result.andThen_ok, List.map_toArray, List.map_cons, List.map_nil, hs, hx, ht, hr]
theorem region_T {id : Nat} {a : Act} {w : World} (hm : P.follows .mixedOrders = true) (h : wpAnyT P .any ops Q T L ops.size (Array.replicate ops.size false) a w.drew) : (Code.region id ops true).wp P Q a w := wp_region_any hm (any_of_T _ _ _ _ h)
end
end Go.Proofs.YtdcaonfnhdjibaaDoor
