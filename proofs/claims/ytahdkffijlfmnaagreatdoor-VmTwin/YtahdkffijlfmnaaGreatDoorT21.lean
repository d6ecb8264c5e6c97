import Derived.Test.YtahdkffijlfmnaaGreatDoorT20
namespace Go.Proofs.YtahdkffijlfmnaaGreatDoor
open Go.RowKit
open Hp (V vc vcs bv)
theorem app_none (w : World) (ty : TypeId) (q : Option Addr) (n cap : Nat) (hn : n ≤ cap) (s : ByteArray) (hs : s.size = 0) (hq : q = none → n = 0) : (Builtin.append_ #[80, 9] ty #[.slice q n cap, .string s]).run Tryz.prog w = .ok (.slice q n cap) w := by
  obtain ⟨i, hi, hz0, hz1, hz2⟩ := info_parts Hp.info5
  have hf := Lib.run_firstCells_string (P := Tryz.prog) w 1 s
  have he : Lib.strCells s = [] := by
    have : (Lib.strCells s).length = 0 := by rw [Lib.strCells_length]; exact hs
    exact List.eq_nil_of_length_eq_zero this
  rw [he, hs] at hf
  cases q with
  | none =>
    have := hq rfl
    subst this
    simp [Builtin.append_, run_underlying Tryz.underlying80, run_underlying Tryz.underlying9, sizeOf, typeInfo, hi, hz1, Builtin.lenOf, hs, hf]
  | some a => simp [Builtin.append_, run_underlying Tryz.underlying80, run_underlying Tryz.underlying9, sizeOf, typeInfo, hi, hz1, Builtin.lenOf, hs, hn, hf, storeCells]
set_option maxRecDepth 100000 in
theorem runR_appS (w : World) (ty : TypeId) (v : Value) (n : Nat) (l : List UInt8) (s : ByteArray) (hown : OwnR w 5 1 v n (bv l)) (hn : n + s.size ≤ 1000000000) :
    ∃ v' w', (Builtin.append_ #[80, 9] ty #[v, .string s]).run Tryz.prog w = .ok v' w' ∧ OwnR w' 5 1 v' (n + s.size) (bv (l ++ s.data.toList)) ∧ w.grownBy w' (obk v) ∧ (obk v' = obk v ∨ obk v' = some w.heap.size) := by
  rcases Nat.eq_zero_or_pos s.size with h0 | h0
  · obtain ⟨q, cap, rfl, hc, hq⟩ := rown_slice hown
    have he : s.data.toList = [] := List.eq_nil_of_length_eq_zero (by rw [Array.length_toList]; exact h0)
    refine ⟨_, _, app_none w ty q n cap hc s h0 (fun e => ?_), by rw [h0, he, List.append_nil]; exact hown, ⟨rfl, rfl, rfl, Nat.le_refl _, fun _ _ _ => rfl⟩, .inl rfl⟩
    rcases Nat.eq_zero_or_pos n with r | r
    · exact r
    · obtain ⟨g, e1, -⟩ := hq r
      rw [e] at e1; cases e1
  · obtain ⟨i, hi, hz0, hz1, hz2⟩ := info_parts Hp.info5
    have nil : n = 0 → l = [] → ∃ v' w', (Builtin.append_ #[80, 9] ty #[.slice none 0 0, .string s]).run Tryz.prog w = .ok v' w' ∧ OwnR w' 5 1 v' (n + s.size) (bv (l ++ s.data.toList)) ∧ w.grownBy w' none ∧ obk v' = some w.heap.size := fun e1 e2 => by
      subst e1 e2
      obtain ⟨v', w', h1, h2, h3, _⟩ := Lib.run_append_own_string (P := Tryz.prog) w 0 80 9 ty 5 i Tryz.underlying80 Tryz.underlying9 hi hz0 hz1 hz2 (.slice none 0 0) 0 [] ⟨rfl, .inl ⟨rfl, rfl⟩⟩ s (by unfold maxLen; omega) (by omega) (Nat.zero_le _)
      have r1 := run_append_nil_string (P := Tryz.prog) w 80 9 ty 5 i (.int .u8 0) Tryz.underlying80 Tryz.underlying9 hi hz0 s h0 (by omega) (by rw [hz2]; omega)
      refine ⟨v', w', h1, .inl ?_, h3, ?_⟩
      · rw [List.nil_append, ← Hp.strCells_bv]; exact h2
      · obtain ⟨q, c, e, hc, hq⟩ := own_slice h2
        rw [h1] at r1
        injection r1 with a b
        rw [a] at e
        injection e with e5 e6 e7
        rw [a, e7]
        exact obk_pos (by omega)
    have zero : ∀ q, v = .slice q 0 0 → n = 0 → l = [] → ∃ v' w', (Builtin.append_ #[80, 9] ty #[v, .string s]).run Tryz.prog w = .ok v' w' ∧ OwnR w' 5 1 v' (n + s.size) (bv (l ++ s.data.toList)) ∧ w.grownBy w' (obk v) ∧ (obk v' = obk v ∨ obk v' = some w.heap.size) := by
      rintro q rfl e1 e2
      obtain ⟨v', w', a1, a2, a3, a4⟩ := nil e1 e2
      cases q with
      | none => exact ⟨v', w', a1, a2, a3, .inr a4⟩
      | some a =>
        have r1 := Lib.run_append_grow_string (P := Tryz.prog) w 80 9 ty 5 i (.int .u8 0) Tryz.underlying80 Tryz.underlying9 hi hz0 a 0 0 [] (by simp) (fun j v hv => by cases hv) s (by omega) (by omega) (by rw [hz2]; exact growslice_fits (by omega) (by omega))
        have r2 := run_append_nil_string (P := Tryz.prog) w 80 9 ty 5 i (.int .u8 0) Tryz.underlying80 Tryz.underlying9 hi hz0 s h0 (by omega) (by rw [hz2]; omega)
        refine ⟨v', w', ?_, a2, by rw [obk_zero]; exact a3, .inr a4⟩
        have e5 : (Lib.strCells s).toArray = s.data.map (fun b => Value.int .u8 (b.toNat : Int)) := by
          apply Array.ext'
          simp [Lib.strCells]
        rw [r1, ← a1, r2, e5, Nat.zero_add]
        simp
    rcases hown with ho | ⟨q, e1, e2, e3⟩ | hM
    · rcases ho.2 with ⟨rfl, e2⟩ | ⟨g', cap, cur, rfl, b1, b2, b3, b4, b5, b6⟩
      · exact zero none rfl e2 (List.eq_nil_of_length_eq_zero (by have := ho.1; rw [Hp.bv_len] at this; omega))
      · by_cases hc : cap = 0
        · subst hc
          obtain rfl : n = 0 := by omega
          exact zero _ rfl rfl (List.eq_nil_of_length_eq_zero (by have := ho.1; rw [Hp.bv_len] at this; omega))
        · obtain ⟨v', w', a1, a2, a3, a4⟩ := Hp.run_appS w ty 0 g' cap n l s ho hn (Nat.zero_le _)
          have hv : obk (.slice (some ⟨g', 0, none⟩) n cap) = some g' := obk_pos (by omega)
          have hv' : obk v' = v'.ownBlock := by
            obtain ⟨q, c, rfl, hc2, hq⟩ := own_slice a2
            obtain ⟨g3, rfl, -⟩ := hq (by omega)
            rw [obk_pos (by omega)]
            rfl
          exact ⟨v', w', a1, .inl a2, by rw [hv]; exact a3, by rw [hv, hv']; exact a4⟩
    · exact zero q e1 e2 (List.eq_nil_of_length_eq_zero (by have := congrArg List.length e3; rw [Hp.bv_len] at this; exact this))
    · have eb : bv (l ++ s.data.toList) = bv l ++ byteCells s := by rw [Hp.bv_app]; rfl
      rw [eb]
      exact runM_src w 80 9 ty (.int .u8 0) 1 Tryz.underlying80 Hp.info5 rfl (by decide) v n (bv l) hM _ s.size (byteCells s) (Src.ofString w Tryz.underlying9 s) h0 hn
theorem MachM.outs {w w5 : World} {g : Nat} {K : Cg} {S : Ms} {L : List Fm} {fv ov v5 : Value} {F Q : Nat → Prop} (h : MachM w g K S L fv ov F Q) (hk : Kp (fun x => obk ov = some x) w w5) (out : List UInt8)
    (ho : OwnR w5 5 1 v5 out.length (bv out)) (hv : ∀ b, obk v5 = some b → obk ov = some b ∨ w.heap.size ≤ b) :
    MachM (w5.setCell ⟨g, 13, none⟩ v5) g K { S with out := out } L fv v5 F Q ∧ Kp (fun x => x = g ∨ obk ov = some x) w (w5.setCell ⟨g, 13, none⟩ v5) := by
  obtain ⟨hb, hF, hr⟩ := h.heap.blk
  have hb : Blk w g 82 17 := hb
  have hF : F g := hF
  have hgl : g < w.heap.size := hb.lt
  have hlt := h.lt
  have h5 : w5.heap[g]? = w.heap[g]? := hk.block g hgl fun q => h.nv g (.inr q) hF
  have keep : ∀ b, b < w.heap.size → b ≠ g → obk ov ≠ some b → (w5.setCell ⟨g, 13, none⟩ v5).heap[b]? = w.heap[b]? := fun b h1 h2 h3 => (set_heap (a := ⟨g, 13, none⟩) h2).trans (hk.block b h1 h3)
  have hne : ∀ b, ¬ F b → b ≠ g := fun b hb q => hb (q ▸ hF)
  have hv5 : obk v5 ≠ some g := fun q => by
    rcases hv g q with r | r
    · exact h.nv g (.inr r) hF
    · omega
  have h5c : ∀ j, w5.cell? ⟨g, j, none⟩ = w.cell? ⟨g, j, none⟩ := fun j => World.cell?_of_block (w := w) (a := ⟨g, j, none⟩) h5
  have hh : Hp.HeapOf w5 (mhp g K S fv ov) K.lim S.hp F := h.heap.same (fun b hb => hk.block b (hlt b (.inl (.inl hb))) fun q => h.nv b (.inr q) hb) hk.size
  have hh2 := hh.put 13 (.inr (show 8 + 4 ≤ 13 by decide)) v5 (msc K { S with out := out } fv v5) fun x hx => by
    have other : ∀ j v, j ≠ 13 → w.cell? ⟨g, j, none⟩ = some v → (w5.setCell ⟨g, 13, none⟩ v5).cell? ⟨g, j, none⟩ = some v := fun j v hj hv => (World.cell?_setCell_other _ _ _ _ (fun q => hj (by have := congrArg Addr.off q; exact (by simpa using this : 13 = j).symm))).trans ((h5c j).trans hv)
    have same : (w5.setCell ⟨g, 13, none⟩ v5).cell? ⟨g, 13, none⟩ = some v5 := World.cell?_setCell_same' _ _ _ (by rw [h5c 13, h.k13]; rfl)
    unfold msc at hx
    simp only [List.mem_cons, List.not_mem_nil, or_false] at hx
    rcases hx with rfl | rfl | rfl | rfl | rfl | rfl | rfl | rfl | rfl | rfl | rfl | rfl | rfl
    · exact ⟨.inl (show 0 < 8 by decide), other 0 _ (by decide) h.k0⟩
    · exact ⟨.inl (show 1 < 8 by decide), other 1 _ (by decide) h.k1⟩
    · exact ⟨.inl (show 2 < 8 by decide), other 2 _ (by decide) h.k2⟩
    · exact ⟨.inl (show 3 < 8 by decide), other 3 _ (by decide) h.k3⟩
    · exact ⟨.inl (show 4 < 8 by decide), other 4 _ (by decide) h.k4⟩
    · exact ⟨.inl (show 5 < 8 by decide), other 5 _ (by decide) h.k5⟩
    · exact ⟨.inl (show 6 < 8 by decide), other 6 _ (by decide) h.k6⟩
    · exact ⟨.inl (show 7 < 8 by decide), other 7 _ (by decide) h.k7⟩
    · exact ⟨.inr (show 8 + 4 ≤ 12 by decide), other 12 _ (by decide) h.k12⟩
    · exact ⟨.inr (show 8 + 4 ≤ 13 by decide), same⟩
    · exact ⟨.inr (show 8 + 4 ≤ 14 by decide), other 14 _ (by decide) h.k14⟩
    · exact ⟨.inr (show 8 + 4 ≤ 15 by decide), other 15 _ (by decide) h.k15⟩
    · exact ⟨.inr (show 8 + 4 ≤ 16 by decide), other 16 _ (by decide) h.k16⟩
  have ovn : ∀ m ∈ L, ∀ b, obk m.sv = some b ∨ obk m.tv = some b → obk ov ≠ some b := fun m hm b hb q => by
    rcases hb with hb | hb
    · exact rown_neW (h.rows m hm).1 (rown_bk h.out b q) (by decide) hb
    · exact rown_neW (h.rows m hm).2 (rown_bk h.out b q) (by decide) hb
  refine ⟨⟨h.code.same (fun b hb => keep b (h.code.lt b hb) (hne b (h.nq b hb).1) (h.nq b hb).2.2.1) (by rw [set_size]; exact hk.size), hh2, ?_, h.abs, fun m hm => ⟨rown_same (h.rows m hm).1 fun b hb => keep b (hlt b (.inl (.inr (.inr (.inr ⟨m, hm, .inl hb⟩))))) (hne b (h.nf m hm b (.inl hb))) (ovn m hm b (.inl hb)), rown_same (h.rows m hm).2 fun b hb => keep b (hlt b (.inl (.inr (.inr (.inr ⟨m, hm, .inr hb⟩))))) (hne b (h.nf m hm b (.inr hb))) (ovn m hm b (.inr hb))⟩, ?_, h.sep, h.nf, fun b hb q => ?_, fun b hb => ?_⟩, ?_⟩
  · exact rown_same h.fr fun b hb => keep b (hlt b (.inl (.inr (.inl hb)))) (hne b (h.nv b (.inl hb))) fun q => rown_ne h.out (rown_blk h.fr b hb) (by decide) q
  · exact rown_same ho fun b hb => set_heap (a := ⟨g, 13, none⟩) fun q => hv5 (by have q : b = g := q; rw [← q]; exact hb)
  · rcases hb with hb | hb
    · exact h.nv b (.inl hb) q
    · rcases hv b hb with r | r
      · exact h.nv b (.inr r) q
      · have := hlt b (.inl (.inl q))
        omega
  · obtain ⟨n0, n1, n2, n3⟩ := h.nq b hb
    refine ⟨n0, n1, fun q => ?_, n3⟩
    rcases hv b q with r | r
    · exact n2 r
    · have := h.code.lt b hb
      omega
  · exact (⟨hk.os, hk.tape, hk.output, hk.size, fun b hb hn => hk.block b hb fun q => hn (.inr q)⟩ : Kp (fun x => x = g ∨ obk ov = some x) w w5).setCell (p := ⟨g, 13, none⟩) (.inl (.inl rfl)) _
structure PrI (w1 W : World) (g : Nat) (K : Cg) (S : Ms) (L : List Fm) (fv ov : Value) (F Q : Nat → Prop) (out : List UInt8) : Prop where
  ex : ∃ ov', MachM W g K { S with out := out } L fv ov' F Q ∧ (∀ b, obk ov' = some b → obk ov = some b ∨ w1.heap.size ≤ b)
  kp : Kp (fun x => x = g ∨ obk ov = some x) w1 W
theorem PrI.next {w1 W W' : World} {g : Nat} {K : Cg} {S : Ms} {L : List Fm} {fv ov : Value} {F Q : Nat → Prop} {out : List UInt8} (h : PrI w1 W g K S L fv ov F Q out) (k : Below W.heap.size W W') : PrI w1 W' g K S L fv ov F Q out := by
  obtain ⟨ov', h1, h2⟩ := h.ex
  exact ⟨⟨ov', h1.next k, h2⟩, h.kp.next k⟩
theorem PrI.app {w1 W : World} {g : Nat} {K : Cg} {S : Ms} {L : List Fm} {fv ov : Value} {F Q : Nat → Prop} {out : List UInt8} (h : PrI w1 W g K S L fv ov F Q out) : ∃ q c, W.cell? ⟨g, 13, none⟩ = some (.slice q out.length c) ∧ W.frozen? ⟨g, 13, none⟩ = false ∧ OwnR W 5 1 (.slice q out.length c) out.length (bv out) ∧
    ∀ W2, Below W.heap.size W W2 → ∀ v5 w5 (l : List UInt8), OwnR w5 5 1 v5 (out ++ l).length (bv (out ++ l)) → W2.grownBy w5 (obk (.slice q out.length c)) → (obk v5 = obk (.slice q out.length c) ∨ obk v5 = some W2.heap.size) →
      (w5.cell? ⟨g, 13, none⟩ = some (.slice q out.length c) ∧ w5.frozen? ⟨g, 13, none⟩ = false) ∧ PrI w1 (w5.setCell ⟨g, 13, none⟩ v5) g K S L fv ov F Q (out ++ l) := by
  obtain ⟨ov', h1, h2⟩ := h.ex
  obtain ⟨q, c, e, -, -⟩ := rown_slice h1.out
  have e : ov' = .slice q out.length c := e
  subst e
  refine ⟨q, c, h1.k13, h1.un 13, h1.out, fun W2 b v5 w5 l ho hg hv => ?_⟩
  have hkw : Kp (fun x => obk (.slice q out.length c) = some x) W w5 := (Kp.of b).grown hg fun x hx => .inl hx
  have hgF : F g := h1.heap.blk.2.1
  have hgb : w5.heap[g]? = W.heap[g]? := hkw.block g h1.heap.blk.1.lt fun e => h1.nv g (.inr e) hgF
  have hv5 : ∀ x, obk v5 = some x → obk (.slice q out.length c) = some x ∨ W.heap.size ≤ x := fun x hx => by
    rcases hv with r | r
    · exact .inl (r ▸ hx)
    · rw [r] at hx; cases hx; exact .inr b.size
  obtain ⟨r1, r2⟩ := h1.outs hkw (out ++ l) ho hv5
  refine ⟨⟨(World.cell?_of_block (w := W) (a := ⟨g, 13, none⟩) hgb).trans h1.k13, ?_⟩, ⟨⟨v5, r1, fun x hx => ?_⟩, h.kp.trans r2 fun x hx hq => ?_⟩⟩
  · have : w5.frozen? ⟨g, 13, none⟩ = W.frozen? ⟨g, 13, none⟩ := by unfold World.frozen?; rw [show w5.heap[(⟨g, 13, none⟩ : Addr).block]? = W.heap[(⟨g, 13, none⟩ : Addr).block]? from hgb]
    rw [this]
    exact h1.un 13
  · rcases hv5 x hx with r | r
    · exact h2 x r
    · exact .inr (Nat.le_trans h.kp.size r)
  · rcases hq with r | r
    · exact .inl r
    · rcases h2 x r with r | r
      · exact .inr r
      · omega
end Go.Proofs.YtahdkffijlfmnaaGreatDoor

namespace Go.Proofs.YtahdkffijlfmnaaGreatDoor
open Go.RowKit
open Hp (V vc vcs bv)
def strB (v : V) : List UInt8 := (Hp.strS v.1 v.2.1 v.2.2).data.toList
def prF (j : Nat) (v : V) : List UInt8 := (if 0 < j then [32] else []) ++ strB v
def prL : Nat → List V → List UInt8
  | _, [] => []
  | j, v :: l => prF j v ++ prL (j + 1) l
theorem prL_app : ∀ (l : List V) (j : Nat) (v : V), prL j (l ++ [v]) = prL j l ++ prF (j + l.length) v
  | [], j, v => by simp [prL]
  | x :: l, j, v => by rw [List.cons_append, prL, prL_app l, prL, List.append_assoc, List.length_cons]; congr 3; omega
def doPrintS (S : Ms) (n : Nat) (f : Fr) (a : Nat) : Except Int Ms :=
  if f.st.length < a then .error 7
  else if (f.st.drop (f.st.length - a)).all plainS = false then .error 7
  else .ok { S.cut n f (f.st.take (f.st.length - a)) with out := S.out ++ (prL 0 (f.st.drop (f.st.length - a)) ++ [10]) }
theorem callStr (a : Value) (w : World) : (callFunc 120 #[a]).run Tryz.prog w = .ok (.enter 120 #[a]) w := by kernel_rfl
theorem stepR_appS {w : World} {ops : Array Oper} {o : Oper} {a : Act} {K : Act → World → Prop} {Q : Exit → Act → World → Prop} {E : Prop} (hgd : o.guard = none) (s x : Operand)
    (ho : o.op = .call { callee := .builtin .append, args := #[s, x], argTypes := #[80, 9] })
    (v : Value) (n : Nat) (l : List UInt8) (hs : a.eval s = v) (hown : OwnR w 5 1 v n (bv l)) (t : ByteArray) (hx : a.eval x = .string t) (h40 : n + t.size ≤ 1000000000)
    (h : ∀ v' w', Hid (OwnR w' 5 1 v' (n + t.size) (bv (l ++ t.data.toList))) → Hid (w.grownBy w' (obk v) ∧ (obk v' = obk v ∨ obk v' = some w.heap.size)) → K (a.put o.dst v') w') : if Region.wanted o (yielded ops a.tmps) = true then Oper.wp Tryz.prog o a w K Q else E := by
  have hw : Region.wanted o (yielded ops a.tmps) = true := by simp [Region.wanted, hgd]
  rw [if_pos hw]
  obtain ⟨v', w', hr, h2, h3⟩ := runR_appS w o.type v n l t hown h40
  unfold Oper.wp execOp
  simp only [ho, resolve, invoke, builtin, Sem.run_bind, Sem.run_pure, Result.andThen_ok, List.map_toArray, List.map_cons, List.map_nil, hs, hx, hr]
  exact h v' w' h2 h3
theorem wpList_apv {P : Program} {w : World} {ops : Array Oper} {rest : List Oper} {o : Oper} {a : Act} {Q : Exit → Act → World → Prop} {v' : Value} {w' : World} (hgd : o.guard = none) (s x : Operand) (t : TypeId) (va vx : Value)
    (ho : o.op = .call { callee := .builtin .append, args := #[s, x], argTypes := #[t, t] }) (ty : TypeId) (hty : o.type = ty) (hs : a.eval s = va) (hx : a.eval x = vx) (hr : (Builtin.append_ #[t, t] ty #[va, vx]).run P w = .ok v' w')
    (h : wpList P ops Q rest (a.put o.dst v') w') : wpList P ops Q (o :: rest) a w := by
  subst hty hs hx
  exact wpList_apr hgd s x t ho hr h
theorem PrI.byte {w1 W : World} {g : Nat} {K : Cg} {S : Ms} {L : List Fm} {fv ov : Value} {F Q : Nat → Prop} {out : List UInt8} (h : PrI w1 W g K S L fv ov F Q out) (b : UInt8) (hl : out.length ≤ 950000000) : ∃ q c v5 w5, W.cell? ⟨g, 13, none⟩ = some (.slice q out.length c) ∧ (W.alloc (.cells #[.int .u8 (b.toNat : Int)] 5)).cell? ⟨g, 13, none⟩ = some (.slice q out.length c) ∧
    (Builtin.append_ #[80, 80] 80 #[.slice q out.length c, .slice (some ⟨W.heap.size, 0, none⟩) 1 1]).run Tryz.prog (W.alloc (.cells #[.int .u8 (b.toNat : Int)] 5)) = .ok v5 w5 ∧ w5.cell? ⟨g, 13, none⟩ = some (.slice q out.length c) ∧ w5.frozen? ⟨g, 13, none⟩ = false ∧ (∃ q' c', v5 = .slice q' (out ++ [b]).length c') ∧ Hid (PrI w1 (w5.setCell ⟨g, 13, none⟩ v5) g K S L fv ov F Q (out ++ [b]) ∧ ∀ x t n, Blk W x t n → t ≠ 5 → x ≠ g → (w5.setCell ⟨g, 13, none⟩ v5).heap[x]? = W.heap[x]?) := by
  obtain ⟨q, c, r1, r2, r3, r4⟩ := h.app
  have bA : Below W.heap.size W (W.alloc (.cells #[.int .u8 (b.toNat : Int)] 5)) := (Below.refl _ W).alloc (Nat.le_refl _) _
  have fA := Full.new W #[.int .u8 (b.toNat : Int)] 5
  obtain ⟨v5, w5, a1, a2, a3, a4⟩ := runR_app (P := Tryz.prog) (W.alloc (.cells #[.int .u8 (b.toNat : Int)] 5)) 80 80 5 _ 1 1 Tryz.underlying80 Hp.info5 (by rfl) (by decide) (by decide) _ out.length (bv out) (rown_next r3 bA) W.heap.size [.int .u8 (b.toNat : Int)] rfl (fun u hu => by obtain rfl := List.mem_singleton.1 hu; rfl) (fun j u hu => by rw [Nat.zero_add]; exact (fA.cell j u hu).1) (by omega)
  have e : bv out ++ [.int .u8 (b.toNat : Int)] = bv (out ++ [b]) := by rw [Hp.bv_app]; rfl
  have e2 : (out ++ [b]).length = out.length + 1 := by simp
  rw [e, ← e2] at a2
  obtain ⟨⟨c1, c2⟩, c3⟩ := r4 _ bA v5 w5 [b] a2 a3 a4
  obtain ⟨q', c', e5, -, -⟩ := rown_slice a2
  exact ⟨q, c, v5, w5, r1, (bA.cell (p := ⟨g, 13, none⟩) (block_lt_of_cell r1)).trans r1, a1, c1, c2, ⟨q', c', e5⟩, c3, fun x t n hx ht hg => (set_heap (a := ⟨g, 13, none⟩) hg).trans ((a3.block x (Nat.lt_of_lt_of_le hx.lt bA.size) fun q => rown_ne r3 hx ht q.symm).trans (bA.block x hx.lt))⟩
theorem strS_size (v : V) (h : v.2.2.size ≤ 256) (hi : I64 v.2.1) : (Hp.strS v.1 v.2.1 v.2.2).size ≤ 256 := by
  unfold Hp.strS
  have h1 : (⟨(Lib.itoa v.2.1).toArray⟩ : ByteArray).size ≤ 21 := by rw [show (⟨(Lib.itoa v.2.1).toArray⟩ : ByteArray).size = (Lib.itoa v.2.1).length from rfl]; exact Lib.itoa_length_le _ hi.1 hi.2
  have h2 : ∀ b, (⟨(Lib.formatBool b).toArray⟩ : ByteArray).size ≤ 256 := fun b => by cases b <;> decide
  have h3 : Hp.e0.size ≤ 256 := by decide
  repeat' split
  all_goals first | omega | exact h2 _ | exact h3
theorem strB_len (v : V) : (strB v).length = (Hp.strS v.1 v.2.1 v.2.2).size := by unfold strB; rw [Array.length_toList]; rfl
theorem prF_len (j : Nat) (v : V) (h : v.2.2.size ≤ 256) (hi : I64 v.2.1) : (prF j v).length ≤ 257 := by
  unfold prF
  have := strS_size v h hi
  rw [List.length_append, strB_len]
  split <;> simp <;> omega
theorem prL_len : ∀ (l : List V) (j : Nat), (∀ v ∈ l, v.2.2.size ≤ 256 ∧ I64 v.2.1) → (prL j l).length ≤ 257 * l.length
  | [], _, _ => by simp [prL]
  | v :: l, j, h => by
    have h1 := prF_len j v (h v (List.mem_cons_self ..)).1 (h v (List.mem_cons_self ..)).2
    have h2 := prL_len l (j + 1) fun u hu => h u (List.mem_cons_of_mem _ hu)
    rw [prL, List.length_append, List.length_cons]
    omega
set_option maxRecDepth 100000 in
set_option maxHeartbeats 4000000 in
theorem doPrint_any {w : World} {g : Nat} {K : Cg} {S : Ms} {L : List Fm} {ov : Value} {F Q : Nat → Prop} {gf cap n : Nat} {m : Fm} (h : Now w w g K L ov F Q gf cap n S m) (hG : GloM w L (.slice (some ⟨gf, 0, none⟩) (n + 1) cap) ov F) (a : Nat) (ha : a ≤ 16) (hv : ∀ v ∈ m.f.st, v.2.2.size ≤ 256 ∧ I64 v.2.1) (ho : S.out.length ≤ 900000000) :
    Calls Tryz.prog 92 #[.pointer (some ⟨g, 0, none⟩), .int .i64 (a : Int)] w fun z w' => Hid (DoR w w' g K L (.slice (some ⟨gf, 0, none⟩) (n + 1) cap) ov F Q gf (n * 4) z (doPrintS S n m.f a)) := by
  have H0 : Hid (Now w w g K L ov F Q gf cap n S m) := h
  have HG : Hid _ := hG
  unfold doPrintS
  by_cases hlt : m.f.st.length < a
  · rw [if_pos hlt]
    have HLT : Hid _ := hlt
    have HA : Hid _ := ha
    clear hlt ha h hG hv ho
    go_enter Tryz.func92, Tryz.ntmps92
    go_wp2_with (first
      | (go_at_call 28; refine (Now.top H0.out).mono ?_; rintro z2 w2 ⟨rfl, H2⟩; clear H0)
      | (go_at_call 113; refine (Now.popNo H2.out a HLT.out (by have := HA.out; omega)).mono ?_; rintro z3 w3 ⟨rfl, H3⟩; clear H2)
      | fail)
    go_ret
    exact H3.out.err 7
  rw [if_neg hlt]
  obtain ⟨l, hl⟩ : ∃ l, m.f.st.length - a = l := ⟨_, rfl⟩
  rw [hl]
  have HL : Hid (l + a = m.f.st.length) := by show _ = _; omega
  have hdl : (m.f.st.drop l).length = a := by rw [List.length_drop]; omega
  obtain ⟨vs, hvs⟩ : ∃ vs, m.f.st.drop l = vs := ⟨_, rfl⟩
  rw [hvs] at hdl ⊢
  have HVS : Hid (m.f.st.drop l = vs ∧ vs.length = a ∧ a ≤ 16 ∧ (∀ v ∈ vs, v.2.2.size ≤ 256 ∧ I64 v.2.1) ∧ S.out.length ≤ 900000000) := ⟨hvs, hdl, ha, fun v hm => hv v (List.mem_of_mem_drop (by rw [hvs]; exact hm)), ho⟩
  clear hvs hdl hl hlt ha h hG hv ho
  cases hpl : vs.all plainS with
  | false =>
    rw [if_pos rfl]
    have HPL : Hid ((vs.drop 0).all plainS = false) := hpl
    clear hpl
    go_enter Tryz.func92, Tryz.ntmps92
    go_wp2_with (first
      | (go_at_call 28; refine (Now.top H0.out).mono ?_; rintro z2 w2 ⟨rfl, H2⟩; clear H0)
      | (go_at_call 113; refine (Now.popAll H2.out a l HL.out).mono ?_; rintro z3 w3 ⟨q, cp, rfl, H3⟩; clear H2)
      | fail)
    have HRO : Hid (∀ j (_ : j < a), ∃ gs o, q = some ⟨gs, o, none⟩ ∧ Blk w3 gs 52 0 ∧ w3.cell? ⟨gs, o + j * 3, none⟩ = some (.int .i64 (vs.getD j (0, 0, Hp.e0)).1) ∧ w3.cell? ⟨gs, o + j * 3 + 1, none⟩ = some (.int .i64 (vs.getD j (0, 0, Hp.e0)).2.1) ∧ w3.cell? ⟨gs, o + j * 3 + 2, none⟩ = some (.string (vs.getD j (0, 0, Hp.e0)).2.2)) := fun j hj => by
      obtain ⟨hr, -⟩ := H3.out
      obtain ⟨gs, o, r1, r2, r5⟩ := hr (by omega)
      rw [HVS.out.1] at r2
      have hjl : j < vs.length := by rw [HVS.out.2.1]; exact hj
      have r3 := Hp.vcs_get r2 j hjl
      have e : vs.getD j (0, 0, Hp.e0) = vs[j] := by rw [List.getD_eq_getElem?_getD, List.getElem?_eq_getElem hjl]; rfl
      rw [e]
      exact ⟨gs, o, r1, r5, r3 0 _ rfl, r3 1 _ rfl, r3 2 _ rfl⟩
    go_loopw [22] (fun v wv => ∃ j : Nat, j ≤ a ∧ v = .int .i64 (j : Int) ∧ Hid (Below w3.heap.size w3 wv ∧ (vs.drop j).all plainS = false)) (fun v _ => a - (intOf v).toNat)
    case atStart => exact ⟨0, Nat.zero_le _, rfl, Below.refl _ _, HPL.out⟩
    case round =>
      obtain ⟨j, hj, rfl, hI⟩ := hrel
      by_cases hlt : j < a
      case neg =>
        obtain rfl : j = a := by omega
        exfalso
        have := hI.out.2
        rw [List.drop_eq_nil_of_le (by rw [HVS.out.2.1]; exact Nat.le_refl _)] at this
        cases this
      have j0 : (0 : Int) ≤ (j : Int) := Int.natCast_nonneg _
      have j1 : (j : Int) < (a : Int) := Int.ofNat_lt.2 hlt
      have hw : IntKind.i64.wrap ((j : Int) + 1) = ((j + 1 : Nat) : Int) := by have := HVS.out.2.2.1; rw [IntKind.wrap_i64]; omega
      obtain ⟨gs, o, eq1, -, a0, a1, a2⟩ := HRO.out j hlt
      have HST : Hid ((plainS (vs.getD j (0, 0, Hp.e0)) && (vs.drop (j + 1)).all plainS) = false) := by
        have hjl : j < vs.length := by rw [HVS.out.2.1]; exact hlt
        have e : vs.getD j (0, 0, Hp.e0) = vs[j] := by rw [List.getD_eq_getElem?_getD, List.getElem?_eq_getElem hjl]; rfl
        show _ = _
        rw [e, ← hI.out.2, List.drop_eq_getElem_cons hjl, List.all_cons]
      generalize vs.getD j (0, 0, Hp.e0) = v at a0 a1 a2 HST
      obtain ⟨k, i, s⟩ := v
      have kk := fun {p : Addr} {u : Value} (q : w3.cell? p = some u) => (hI.out.1.cell (p := p) (block_lt_of_cell q)).trans q
      have c0 := kk a0
      have c1 := kk a1
      have c2 := kk a2
      subst eq1
      clear kk a0 a1 a2
      have f1 := Full.new wr #[.int .i64 k, .int .i64 i, .string s] 52
      have HB1 : Hid (Below w3.heap.size w3 (wr.alloc (.cells #[.int .i64 k, .int .i64 i, .string s] 52))) := hI.out.1.alloc hI.out.1.size _
      have dP := isPlain_any (k, i, s) (wr.alloc (.cells #[.int .i64 k, .int .i64 i, .string s] 52))
      cases hpv : plainS (k, i, s) with
      | false =>
        rw [hpv] at HST dP
        go_wp2_with (first
          | (go_at_call 119; refine dP.mono ?_; rintro z4 w4 ⟨rfl, hb4⟩)
          | fail)
        go_ret
        obtain ⟨-, tv', hN⟩ := H3.out
        exact (hN.next (below2 HB1.out hb4)).err 7
      | true =>
        rw [hpv] at HST dP
        go_wp2_with (first
          | (go_at_call 119; refine dP.mono ?_; rintro z4 w4 ⟨rfl, hb4⟩)
          | fail)
        exact ⟨⟨j + 1, by omega, by first | rfl | (push_cast; rfl) | go_num, below2 HB1.out hb4, by have := HST.out; rwa [Bool.true_and] at this⟩, by simp [intOf]; omega⟩
  | true =>
    rw [if_neg (by decide)]
    have HPL : Hid ((vs.drop 0).all plainS = true) := hpl
    clear hpl
    go_enter Tryz.func92, Tryz.ntmps92
    go_wp2_with (first
      | (go_at_call 28; refine (Now.top H0.out).mono ?_; rintro z2 w2 ⟨rfl, H2⟩; clear H0)
      | (go_at_call 113; refine (Now.popAll H2.out a l HL.out).mono ?_; rintro z3 w3 ⟨q, cp, rfl, H3⟩; clear H2)
      | fail)
    have HRO : Hid (∀ j (_ : j < a), ∃ gs o, q = some ⟨gs, o, none⟩ ∧ Blk w3 gs 52 0 ∧ w3.cell? ⟨gs, o + j * 3, none⟩ = some (.int .i64 (vs.getD j (0, 0, Hp.e0)).1) ∧ w3.cell? ⟨gs, o + j * 3 + 1, none⟩ = some (.int .i64 (vs.getD j (0, 0, Hp.e0)).2.1) ∧ w3.cell? ⟨gs, o + j * 3 + 2, none⟩ = some (.string (vs.getD j (0, 0, Hp.e0)).2.2)) := fun j hj => by
      obtain ⟨hr, -⟩ := H3.out
      obtain ⟨gs, o, r1, r2, r5⟩ := hr (by omega)
      rw [HVS.out.1] at r2
      have hjl : j < vs.length := by rw [HVS.out.2.1]; exact hj
      have r3 := Hp.vcs_get r2 j hjl
      have e : vs.getD j (0, 0, Hp.e0) = vs[j] := by rw [List.getD_eq_getElem?_getD, List.getElem?_eq_getElem hjl]; rfl
      rw [e]
      exact ⟨gs, o, r1, r5, r3 0 _ rfl, r3 1 _ rfl, r3 2 _ rfl⟩
    go_loopw [22] (fun v wv => ∃ j : Nat, j ≤ a ∧ v = .int .i64 (j : Int) ∧ Hid (Below w3.heap.size w3 wv ∧ (vs.drop j).all plainS = true)) (fun v _ => a - (intOf v).toNat)
    case atStart => exact ⟨0, Nat.zero_le _, rfl, Below.refl _ _, HPL.out⟩
    case round =>
      obtain ⟨j, hj, rfl, hI⟩ := hrel
      by_cases hlt : j < a
      case neg =>
        obtain rfl : j = a := by omega
        obtain ⟨-, tv', L1, hT, hk⟩ := H3.out
        have HPR0 : Hid (PrI w3 wr g K (S.cut n m.f (m.f.st.take l)) L1 (.slice (some ⟨gf, 0, none⟩) (n + 1) cap) ov F Q S.out) := ⟨⟨ov, hT.h.next hI.out.1, fun b hb => .inl hb⟩, Kp.of hI.out.1⟩
        have HT : Hid (TopM w3 g K (S.cut n m.f (m.f.st.take l)) L1 ov F Q gf cap n (m.st' tv' (m.f.st.take l)) ∧ Mid w w3 g K L (S.cut n m.f (m.f.st.take l)) L1 (.slice (some ⟨gf, 0, none⟩) (n + 1) cap) ov F Q gf (n * 4)) := ⟨hT, hk⟩
        clear hT hk hI hj H3
        have HP0 : Hid (PrI w3 wr g K (S.cut n m.f (m.f.st.take l)) L1 (.slice (some ⟨gf, 0, none⟩) (n + 1) cap) ov F Q (S.out ++ prL 0 (vs.take 0))) := by
          show PrI _ _ _ _ _ _ _ _ _ _ _
          rw [List.take_zero, prL, List.append_nil]
          exact HPR0.out
        have HLE : Hid (∀ j, (S.out ++ prL 0 (vs.take j)).length ≤ 900010000) := fun j => by
          have := prL_len (vs.take j) 0 fun v hm => HVS.out.2.2.2.1 v (List.mem_of_mem_take hm)
          have h2 : (vs.take j).length ≤ vs.length := by rw [List.length_take]; omega
          have h3 := HVS.out.2.1
          have h4 := HVS.out.2.2.1
          have h5 := HVS.out.2.2.2.2
          rw [List.length_append]
          omega
        have HGL : Hid (∀ W out, PrI w3 W g K (S.cut n m.f (m.f.st.take l)) L1 (.slice (some ⟨gf, 0, none⟩) (n + 1) cap) ov F Q out → Hp.Tab10 W) := fun W out hW => by
          have h3 : Glo w3 := (⟨L1, HT.out.1, HT.out.2⟩ : Now w w3 g K L ov F Q gf cap n _ _).glo HG.out
          have hf : ∀ b, b < 8 → ¬ foot L1 (.slice (some ⟨gf, 0, none⟩) (n + 1) cap) ov F b := fun b hb q => by
            rcases HT.out.2.ft b q with r | r
            · exact HG.out.2 b hb r
            · have := HG.out.1.tabs.size
              omega
          refine (h3.kept hW.kp fun b hb q => hf b hb ?_).t10
          rcases q with r | r
          · rw [r]; exact .inl HT.out.1.h.heap.blk.2.1
          · exact .inr (.inr (.inl r))
        clear HPR0 HPL
        go_wp2_with fail
        go_loopw [32] (fun v wv => ∃ i : Nat, i ≤ j ∧ v = .int .i64 (i : Int) ∧ Hid (PrI w3 wv g K (S.cut n m.f (m.f.st.take l)) L1 (.slice (some ⟨gf, 0, none⟩) (n + 1) cap) ov F Q (S.out ++ prL 0 (vs.take i)))) (fun v _ => j - (intOf v).toNat)
        case atStart => exact ⟨0, Nat.zero_le _, rfl, HP0⟩
        case round =>
          obtain ⟨i, hi, rfl, hI⟩ := hrel
          obtain ⟨OU, hOU⟩ : ∃ OU, OU = S.out ++ prL 0 (vs.take i) := ⟨_, rfl⟩
          rw [← hOU] at hI
          have hol : OU.length ≤ 900010000 := by rw [hOU]; exact HLE.out i
          have HOU : Hid (OU = S.out ++ prL 0 (vs.take i)) := hOU
          clear hOU
          by_cases hlt2 : i < j
          case neg =>
            obtain rfl : i = j := by omega
            obtain ⟨q9, c9, v9, w9, x1, x2, x3, x4, x5, ⟨q8, c8, e8⟩, HPF⟩ := hI.out.byte 10 (by omega)
            obtain ⟨O2, hO2⟩ : ∃ O2, OU ++ [10] = O2 := ⟨_, rfl⟩
            rw [hO2] at e8 HPF
            have HO2 : Hid _ := hO2
            subst e8
            clear hO2
            rw [show (((10 : UInt8).toNat : Nat) : Int) = 10 from rfl] at x2 x3
            go_wp2_with (first
              | (at_builtin; refine wpList_apv (by rfl) _ _ 80 _ _ (by rfl) 80 (by rfl) (by rfl) (by rfl) x3 ?_)
              | fail)
            go_ret
            refine ⟨rfl, ?_⟩
            obtain ⟨⟨ov', m1, m2⟩, mk⟩ := HPF.out.1
            have hE : S.out ++ (prL 0 vs ++ [10]) = O2 := by rw [← HO2.out, HOU.out, show vs.take i = vs from List.take_of_length_le (by rw [HVS.out.2.1]; exact Nat.le_refl _), List.append_assoc]
            rw [hE]
            refine WentM.after HT.out.2.ft HT.out.2.kp ⟨L1, _, ov', F, m1, fun b hb => ?_, ⟨mk.os, mk.tape, mk.output, mk.size, fun b hb hn => mk.block b hb fun q => hn ?_⟩⟩
            · rcases hb with hb | hb | hb | hb
              · exact .inl (.inl hb)
              · exact .inl (.inr (.inl hb))
              · rcases m2 b hb with r | r
                · exact .inl (.inr (.inr (.inl r)))
                · exact .inr r
              · exact .inl (.inr (.inr (.inr hb)))
            · rcases q with r | r
              · rw [r]; exact .inl HT.out.1.h.heap.blk.2.1
              · exact .inr (.inr (.inl r))
          have i0 : (0 : Int) ≤ (i : Int) := Int.natCast_nonneg _
          have i1 : (i : Int) < (j : Int) := Int.ofNat_lt.2 hlt2
          have hw : IntKind.i64.wrap ((i : Int) + 1) = ((i + 1 : Nat) : Int) := by have := HVS.out.2.2.1; rw [IntKind.wrap_i64]; omega
          obtain ⟨gs, o, eq1, hbk, a0, a1, a2⟩ := HRO.out i hlt2
          have hil : i < vs.length := by rw [HVS.out.2.1]; exact hlt2
          have hgd : vs.getD i (0, 0, Hp.e0) = vs[i] := by rw [List.getD_eq_getElem?_getD, List.getElem?_eq_getElem hil]; rfl
          have HVV0 := HVS.out.2.2.2.1 (vs.getD i (0, 0, Hp.e0)) (by rw [hgd]; exact List.getElem_mem hil)
          have HEQ0 : S.out ++ prL 0 (vs.take (i + 1)) = OU ++ prF i (vs.getD i (0, 0, Hp.e0)) := by
            rw [HOU.out, hgd, List.take_succ_eq_append_getElem hil, prL_app, ← List.append_assoc, List.length_take, Nat.zero_add, Nat.min_eq_left (Nat.le_of_lt hil)]
          generalize vs.getD i (0, 0, Hp.e0) = v at a0 a1 a2 HVV0 HEQ0
          obtain ⟨k, jj, s⟩ := v
          have HVV : Hid (s.size ≤ 256 ∧ I64 jj) := HVV0
          have HSS : Hid ((Hp.strS k jj s).size ≤ 256) := strS_size (k, jj, s) HVV0.1 HVV0.2
          have hwb : wr.heap[gs]? = w3.heap[gs]? := hI.out.kp.block gs hbk.lt fun q => by
            rcases q with r | r
            · have hmb : Blk w3 g 82 17 := HT.out.1.h.heap.blk.1
              exact hbk.ne hmb (by decide) r
            · exact rown_ne HT.out.1.h.out hbk (by decide) r
          have c0 := (World.cell?_of_block (w := w3) (w' := wr) (a := ⟨gs, o + i * 3, none⟩) hwb).trans a0
          have c1 := (World.cell?_of_block (w := w3) (w' := wr) (a := ⟨gs, o + i * 3 + 1, none⟩) hwb).trans a1
          have c2 := (World.cell?_of_block (w := w3) (w' := wr) (a := ⟨gs, o + i * 3 + 2, none⟩) hwb).trans a2
          subst eq1
          have fX := Full.new wr #[.int .i64 k, .int .i64 jj, .string s] 52
          have HX := hI.out.next ((Below.refl _ wr).alloc (Nat.le_refl _) (.cells #[.int .i64 k, .int .i64 jj, .string s] 52))
          have hgB : wr.heap.size ≠ g := by
            obtain ⟨ov', m1, -⟩ := hI.out.ex
            have hmb : Blk wr g 82 17 := m1.heap.blk.1
            have := hmb.lt
            omega
          have HEQ1 : Hid _ := HEQ0
          clear a0 a1 a2 hbk hil hgd HVV0 HEQ0 hwb
          by_cases hi0 : 0 < i
          · have i2 : (0 : Int) < (i : Int) := by omega
            obtain ⟨q9, c9, v9, w9, x1, x2, x3, x4, x5, ⟨q8, c8, e8⟩, HPF⟩ := HX.byte 32 (by omega)
            obtain ⟨O2, hO2⟩ : ∃ O2, OU ++ [32] = O2 := ⟨_, rfl⟩
            rw [hO2] at e8 HPF
            have HO2 : Hid _ := hO2
            have HL2 : Hid (O2.length = OU.length + 1) := by show _ = _; rw [← hO2]; simp
            subst e8
            clear hO2
            rw [show (((32 : UInt8).toNat : Nat) : Int) = 32 from rfl] at x2 x3
            rw [World.size_alloc] at x3
            have fV : Full (w9.setCell ⟨g, 13, none⟩ (.slice q8 (O2).length c8)) wr.heap.size 52 [.int .i64 k, .int .i64 jj, .string s] := (HPF.out.2 wr.heap.size 52 0 ⟨_, fX, Nat.zero_le _⟩ (by decide) hgB).trans fX
            have hW : Hid _ := HPF.out.1
            obtain ⟨q7, c7, r1, r2, r3, r4⟩ := hW.out.app
            have HSZ : Hid ((O2).length + (Hp.strS k jj s).size ≤ 1000000000) := by
              have := HSS.out
              have := HL2.out
              show _ ≤ _
              omega
            have HEQ : Hid (∀ Z, PrI w3 Z g K (S.cut n m.f (m.f.st.take l)) L1 (.slice (some ⟨gf, 0, none⟩) (n + 1) cap) ov F Q (O2 ++ (Hp.strS k jj s).data.toList) → PrI w3 Z g K (S.cut n m.f (m.f.st.take l)) L1 (.slice (some ⟨gf, 0, none⟩) (n + 1) cap) ov F Q (S.out ++ prL 0 (vs.take (i + 1)))) := fun Z hZ => by
              rw [HEQ1.out]
              unfold prF
              rw [if_pos hi0, ← List.append_assoc, HO2.out]
              exact hZ
            clear fX HX hol hgB HLE hI HPF
            go_wp2_with (first
              | (at_builtin; refine wpList_apv (by rfl) _ _ 80 _ _ (by rfl) 80 (by rfl) (by rfl) (by rfl) x3 ?_)
              | fail)
            generalize w9.setCell ⟨g, 13, none⟩ (.slice q8 O2.length c8) = W at fV hW r1 r2 r3 r4 ⊢
            generalize wr.heap.size = B at fV ⊢
            clear x1 x2 x3 x4 x5
            have c13 := r1
            have c13d : W.drew.cell? ⟨g, 13, none⟩ = some (.slice q7 O2.length c7) := r1
            have v0 := (fV.cell 0 _ rfl).1
            have v1 := (fV.cell 1 _ rfl).1
            have v2 := (fV.cell 2 _ rfl).1
            have v0d : W.drew.cell? ⟨B, 0, none⟩ = some (.int .i64 k) := v0
            have v1d : W.drew.cell? ⟨B, 1, none⟩ = some (.int .i64 jj) := v1
            have v2d : W.drew.cell? ⟨B, 2, none⟩ = some (.string s) := v2
            have hT10 := (HGL.out W _ hW.out).next (Below.refl _ W).drew
            have dS := Hp.str_any k jj s W.drew (by have := HVV.out.1; omega) HVV.out.2 hT10
            have HST : Hid (∀ W2, Below W.heap.size W W2 → W2.cell? ⟨g, 13, none⟩ = some (.slice q7 O2.length c7) ∧ Full W2 B 52 [.int .i64 k, .int .i64 jj, .string s] ∧ OwnR W2 5 1 (.slice q7 O2.length c7) O2.length (bv O2)) := fun W2 b2 => ⟨(b2.cell (p := ⟨g, 13, none⟩) (block_lt_of_cell r1)).trans r1, fV.next b2, rown_next r3 b2⟩
            have HR4 : Hid _ := r4
            clear hT10 fV r1 r2 r3 r4
            go_region_law (first
              | (refine step_call (by rfl) 120 [.tmp 53] _ [.agg #[.int .i64 k, .int .i64 jj, .string s]] (by rfl) (by rfl) (callStr _) (fun v w' => v = .string (Hp.strS k jj s) ∧ Hid (Below W.heap.size W w')) (dS.mono fun _ _ q => ⟨_, q.1, rfl, below2 (Below.refl _ W).drew q.2⟩) ?_; rintro v5 w5 ⟨rfl, H5⟩; obtain ⟨k13, kV, kO⟩ := HST.out w5 H5.out; have kO : Hid _ := kO; clear kV)
              | (refine stepR_appS (by rfl) _ _ (by rfl) _ O2.length O2 (by rfl) kO.out (Hp.strS k jj s) (by rfl) HSZ.out ?_; intro v6 w6 ho6 hg6; obtain ⟨⟨d13, e13⟩, HFI⟩ := HR4.out w5 H5.out v6 w6 (Hp.strS k jj s).data.toList (by rw [List.length_append, Array.length_toList]; exact ho6.out) hg6.out.1 hg6.out.2; have HFI : Hid _ := HFI; obtain ⟨q6, c6, e6, -, -⟩ := rown_slice ho6.out; subst e6))
            all_goals
              clear c13 c13d v0 v1 v2 v0d v1d v2d dS
              go_wp2
              exact ⟨⟨i + 1, by omega, by first | rfl | (push_cast; rfl) | go_num, HEQ.out _ HFI.out⟩, by simp [intOf]; omega⟩
          · have i2 : ¬ ((0 : Int) < (i : Int)) := by omega
            go_wp2_with fail
            have hW : Hid _ := HX
            obtain ⟨q7, c7, r1, r2, r3, r4⟩ := hW.out.app
            have fV : Full (wr.alloc (.cells #[.int .i64 k, .int .i64 jj, .string s] 52)) wr.heap.size 52 [.int .i64 k, .int .i64 jj, .string s] := fX
            have HSZ : Hid (OU.length + (Hp.strS k jj s).size ≤ 1000000000) := by
              have := HSS.out
              show _ ≤ _
              omega
            have HEQ : Hid (∀ Z, PrI w3 Z g K (S.cut n m.f (m.f.st.take l)) L1 (.slice (some ⟨gf, 0, none⟩) (n + 1) cap) ov F Q (OU ++ (Hp.strS k jj s).data.toList) → PrI w3 Z g K (S.cut n m.f (m.f.st.take l)) L1 (.slice (some ⟨gf, 0, none⟩) (n + 1) cap) ov F Q (S.out ++ prL 0 (vs.take (i + 1)))) := fun Z hZ => by
              rw [HEQ1.out]
              unfold prF
              rw [if_neg hi0, List.nil_append]
              exact hZ
            clear fX HX hol hgB HLE hI c0 c1 c2
            generalize wr.alloc (.cells #[.int .i64 k, .int .i64 jj, .string s] 52) = W at fV hW r1 r2 r3 r4 ⊢
            generalize wr.heap.size = B at fV ⊢
            have c13 := r1
            have c13d : W.drew.cell? ⟨g, 13, none⟩ = some (.slice q7 OU.length c7) := r1
            have v0 := (fV.cell 0 _ rfl).1
            have v1 := (fV.cell 1 _ rfl).1
            have v2 := (fV.cell 2 _ rfl).1
            have v0d : W.drew.cell? ⟨B, 0, none⟩ = some (.int .i64 k) := v0
            have v1d : W.drew.cell? ⟨B, 1, none⟩ = some (.int .i64 jj) := v1
            have v2d : W.drew.cell? ⟨B, 2, none⟩ = some (.string s) := v2
            have hT10 := (HGL.out W _ hW.out).next (Below.refl _ W).drew
            have dS := Hp.str_any k jj s W.drew (by have := HVV.out.1; omega) HVV.out.2 hT10
            have HST : Hid (∀ W2, Below W.heap.size W W2 → W2.cell? ⟨g, 13, none⟩ = some (.slice q7 OU.length c7) ∧ Full W2 B 52 [.int .i64 k, .int .i64 jj, .string s] ∧ OwnR W2 5 1 (.slice q7 OU.length c7) OU.length (bv OU)) := fun W2 b2 => ⟨(b2.cell (p := ⟨g, 13, none⟩) (block_lt_of_cell r1)).trans r1, fV.next b2, rown_next r3 b2⟩
            have HR4 : Hid _ := r4
            clear hT10 fV r1 r2 r3 r4
            go_region_law (first
              | (refine step_call (by rfl) 120 [.tmp 53] _ [.agg #[.int .i64 k, .int .i64 jj, .string s]] (by rfl) (by rfl) (callStr _) (fun v w' => v = .string (Hp.strS k jj s) ∧ Hid (Below W.heap.size W w')) (dS.mono fun _ _ q => ⟨_, q.1, rfl, below2 (Below.refl _ W).drew q.2⟩) ?_; rintro v5 w5 ⟨rfl, H5⟩; obtain ⟨k13, kV, kO⟩ := HST.out w5 H5.out; have kO : Hid _ := kO; clear kV)
              | (refine stepR_appS (by rfl) _ _ (by rfl) _ OU.length OU (by rfl) kO.out (Hp.strS k jj s) (by rfl) HSZ.out ?_; intro v6 w6 ho6 hg6; obtain ⟨⟨d13, e13⟩, HFI⟩ := HR4.out w5 H5.out v6 w6 (Hp.strS k jj s).data.toList (by rw [List.length_append, Array.length_toList]; exact ho6.out) hg6.out.1 hg6.out.2; have HFI : Hid _ := HFI; obtain ⟨q6, c6, e6, -, -⟩ := rown_slice ho6.out; subst e6))
            all_goals
              clear c13 c13d v0 v1 v2 v0d v1d v2d dS
              go_wp2
              exact ⟨⟨i + 1, by omega, by first | rfl | (push_cast; rfl) | go_num, HEQ.out _ HFI.out⟩, by simp [intOf]; omega⟩
      have j0 : (0 : Int) ≤ (j : Int) := Int.natCast_nonneg _
      have j1 : (j : Int) < (a : Int) := Int.ofNat_lt.2 hlt
      have hw : IntKind.i64.wrap ((j : Int) + 1) = ((j + 1 : Nat) : Int) := by have := HVS.out.2.2.1; rw [IntKind.wrap_i64]; omega
      obtain ⟨gs, o, eq1, -, a0, a1, a2⟩ := HRO.out j hlt
      have HST : Hid ((plainS (vs.getD j (0, 0, Hp.e0)) && (vs.drop (j + 1)).all plainS) = true) := by
        have hjl : j < vs.length := by rw [HVS.out.2.1]; exact hlt
        have e : vs.getD j (0, 0, Hp.e0) = vs[j] := by rw [List.getD_eq_getElem?_getD, List.getElem?_eq_getElem hjl]; rfl
        show _ = _
        rw [e, ← hI.out.2, List.drop_eq_getElem_cons hjl, List.all_cons]
      generalize vs.getD j (0, 0, Hp.e0) = v at a0 a1 a2 HST
      obtain ⟨k, i, s⟩ := v
      have kk := fun {p : Addr} {u : Value} (q : w3.cell? p = some u) => (hI.out.1.cell (p := p) (block_lt_of_cell q)).trans q
      have c0 := kk a0
      have c1 := kk a1
      have c2 := kk a2
      subst eq1
      clear kk a0 a1 a2
      have f1 := Full.new wr #[.int .i64 k, .int .i64 i, .string s] 52
      have HB1 : Hid (Below w3.heap.size w3 (wr.alloc (.cells #[.int .i64 k, .int .i64 i, .string s] 52))) := hI.out.1.alloc hI.out.1.size _
      have dP := isPlain_any (k, i, s) (wr.alloc (.cells #[.int .i64 k, .int .i64 i, .string s] 52))
      cases hpv : plainS (k, i, s) with
      | false =>
        rw [hpv] at HST dP
        go_wp2_with (first
          | (go_at_call 119; refine dP.mono ?_; rintro z4 w4 ⟨rfl, hb4⟩)
          | fail)
        have := HST.out
        cases this
      | true =>
        rw [hpv] at HST dP
        go_wp2_with (first
          | (go_at_call 119; refine dP.mono ?_; rintro z4 w4 ⟨rfl, hb4⟩)
          | fail)
        exact ⟨⟨j + 1, by omega, by first | rfl | (push_cast; rfl) | go_num, below2 HB1.out hb4, by have := HST.out; rwa [Bool.true_and] at this⟩, by simp [intOf]; omega⟩
end Go.Proofs.YtahdkffijlfmnaaGreatDoor

namespace Go.Proofs.YtahdkffijlfmnaaGreatDoor
open Go.RowKit
open Hp (V vc vcs)
theorem doRet_any {w : World} {g : Nat} {K : Cg} {S : Ms} {L : List Fm} {ov : Value} {F Q : Nat → Prop} {gf cap n : Nat} {m : Fm} (h : Now w w g K L ov F Q gf cap n S m) {xs : List V} {v : V} (hx : m.f.st = xs ++ [v]) (hv : v.2.2.size ≤ 9223372036854775807) {i : Nat} (hf : FnOk K m.f i) (hs : ∀ f ∈ S.fs, f.st.length ≤ 400) :
    Calls Tryz.prog 85 #[.pointer (some ⟨g, 0, none⟩)] w fun z w' => Hid (DoR w w' g K L (.slice (some ⟨gf, 0, none⟩) (n + 1) cap) ov F Q gf (n * 4) z (doRetS K S n m.f i hf.2.1 xs v)) := by
  unfold doRetS
  by_cases h0 : (K.Es[i]'hf.2.1).1.result = 0
  · rw [if_pos (.inl h0)]
    exact doRet_zero h hx hv hf h0
  cases hfit : fitV S.hp v (K.Es[i]'hf.2.1).1.result with
  | false =>
    rw [if_pos (.inr (.inl rfl))]
    exact doRet_unfit h hx hv hf h0 hfit
  | true =>
    rcases n with _ | n
    · rw [if_pos (.inr (.inr rfl))]
      exact doRet_last h hx hv hf rfl h0 hfit
    · rw [if_neg (by rintro (r | r | r); exact h0 r; cases r; omega)]
      obtain ⟨L1, hM, hn, -, -⟩ := h.mach
      have hl : S.fs.length = n + 1 + 1 := by rw [← hM.abs, List.length_map]; exact hn
      show Calls _ _ _ _ fun z w' => Hid (DoR _ _ _ _ _ _ _ _ _ _ _ _ (match S.fs[n]? with | none => .error 7 | some fb => if fb.st.length = 400 then .error 7 else .ok (((S.cut (n + 1) m.f xs).setF n { fb with st := fb.st ++ [v] }).left (n + 1))))
      have hfb : S.fs[n]? = some S.fs[n] := List.getElem?_eq_getElem (by omega)
      rw [hfb]
      show Calls _ _ _ _ fun z w' => Hid (DoR _ _ _ _ _ _ _ _ _ _ _ _ (if S.fs[n].st.length = 400 then .error 7 else .ok (((S.cut (n + 1) m.f xs).setF n { S.fs[n] with st := S.fs[n].st ++ [v] }).left (n + 1))))
      by_cases h4 : S.fs[n].st.length = 400
      · rw [if_pos h4]
        exact doRet_full h hx hv hf hfb h4 h0 hfit
      · rw [if_neg h4]
        exact (doRet_ok h hx hv hf hfb (hs _ (List.getElem_mem _)) h4 h0 hfit).mono fun z w' q => ⟨q.1, q.2.out⟩
end Go.Proofs.YtahdkffijlfmnaaGreatDoor

namespace Go.Proofs.YtahdkffijlfmnaaGreatDoor
open Go.RowKit
open Hp (V vc vcs)
abbrev Yd := Int × Bool × V
def yd0 : Yd := (0, false, (0, 0, Hp.e0))
def ydV (y : Yd) : Value := yl y.1 y.2.1 y.2.2
def lastV (l : List V) : V := l.getLastD (0, 0, Hp.e0)
theorem last_app {l : List V} (h : 0 < l.length) : l = l.dropLast ++ [lastV l] := by
  unfold lastV
  have hne : l ≠ [] := by rintro rfl; simp at h
  rw [List.getLastD_eq_getLast?, List.getLast?_eq_some_getLast hne]
  exact (List.dropLast_concat_getLast hne).symm
def plainYd (r : Except Int Ms) : Except Int (Ms × Yd) := r.map fun S => (S, yd0)
def opS (K : Cg) (S : Ms) (n : Nat) (f : Fr) (i : Nat) (hi : i < K.Es.length) (a b : Int) : Nat → Except Int (Ms × Yd)
  | 1 => plainYd (doPush S n f (1, a, Hp.e0))
  | 2 => plainYd (doPush S n f (2, a, Hp.e0))
  | 3 => plainYd (doTextS K S n f a.toNat)
  | 4 => plainYd (doLoadS S n f a.toNat)
  | 5 => plainYd (doStoreS K S n f i hi a.toNat f.st.dropLast (lastV f.st))
  | 6 => .ok (S.cut n f f.st.dropLast, yd0)
  | 7 => plainYd (cutPush S n f f.st.dropLast (vt (Hp.unS a (lastV f.st).1 (lastV f.st).2.1 (lastV f.st).2.2)))
  | 8 => plainYd (cutPush (S.cut n f (f.st.dropLast.dropLast ++ [lastV f.st.dropLast])) n { f with st := f.st.dropLast.dropLast ++ [lastV f.st.dropLast] } f.st.dropLast.dropLast (vt (Hp.binS a (lastV f.st.dropLast).1 (lastV f.st.dropLast).2.1 (lastV f.st.dropLast).2.2 (lastV f.st).1 (lastV f.st).2.1 (lastV f.st).2.2)))
  | 9 => plainYd (doJumpS K S n f i hi a)
  | 10 => plainYd (doFalseS K S n f i hi a f.st.dropLast (lastV f.st))
  | 11 => plainYd (doCallS K S n f a.toNat)
  | 12 => plainYd (doRetS K S n f i hi f.st.dropLast (lastV f.st))
  | 13 => plainYd (doDoneS K S n i hi)
  | 14 => plainYd (doNewS K S n f f.st.dropLast (lastV f.st) a)
  | 15 => plainYd (doGetS S n f f.st.dropLast.dropLast (lastV f.st.dropLast) (lastV f.st))
  | 16 => plainYd (doPutS S n f f.st.dropLast.dropLast.dropLast (lastV f.st.dropLast.dropLast) (lastV f.st.dropLast) (lastV f.st))
  | 17 => plainYd (doLenS S n f f.st.dropLast (lastV f.st))
  | 18 => plainYd (doStrS S n f f.st.dropLast (lastV f.st))
  | 19 => plainYd (doPrintS S n f a.toNat)
  | 20 => plainYd (doReadS K S n f)
  | 21 => .ok (S, (a, false, (0, 0, Hp.e0)))
  | 22 => if h : b.toNat < f.sl.length then .ok (S, (a, true, f.sl[b.toNat])) else .error 7
  | 23 => .ok (S, (a, true, lastV f.st))
  | _ => .ok (S, yd0)
def mnextS (K : Cg) (S : Ms) : Except Int (Ms × Yd) :=
  match S.fs.getLast? with
  | none => .error 7
  | some f =>
    if hi : f.fn.toNat < K.Es.length then
      if inM K f.fn.toNat hi f.pc = true then
        if f.st.length < wantsT.getD (K.c.ins.getD f.pc.toNat (0, 0, 0)).1.toNat 0 then .error 7
        else opS K (S.jump (S.fs.length - 1) f (f.pc + 1)) (S.fs.length - 1) { f with pc := f.pc + 1 } f.fn.toNat hi (K.c.ins.getD f.pc.toNat (0, 0, 0)).2.1 (K.c.ins.getD f.pc.toNat (0, 0, 0)).2.2 (K.c.ins.getD f.pc.toNat (0, 0, 0)).1.toNat
      else .error 7
    else .error 7
def mstepS (K : Cg) (S : Ms) : Ms × Yd × Bool :=
  if S.ph = 0 ∧ S.fs ≠ [] then
    match mnextS K { S with steps := min (S.steps + 1) 4611686018427387904 } with
    | .error t => ({ S with steps := min (S.steps + 1) 4611686018427387904, ph := 2, tr := t }, yd0, false)
    | .ok r => (r.1, r.2, r.2.1 != 0)
  else (S, yd0, false)
def mrunS (K : Cg) : Nat → Ms → Ms × Yd × Bool
  | 0, S => (S, yd0, false)
  | k + 1, S => if (mstepS K S).2.2 = true ∨ (mstepS K S).1.ph ≠ 0 then mstepS K S else mrunS K k (mstepS K S).1
end Go.Proofs.YtahdkffijlfmnaaGreatDoor
