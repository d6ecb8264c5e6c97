import Derived.Test.YtljhobjgofhldaaDoordAn
import Derived.Deep.RegionLaw
namespace Go.Proofs.YtljhobjgofhldaaDoor
open Go.RowKit

theorem step_call {P : Program} {w : World} {ops : Array Oper} {o : Oper} {a : Act} {K : Act → World → Prop} {Q : Exit → Act → World → Prop} {E : Prop} (hgd : o.guard = none) (f : FuncId) (xs : List Operand) (ts : Array TypeId) (us : List Value)
    (ho : o.op = .call { callee := .value (.func f), args := xs.toArray, argTypes := ts }) (hx : xs.map a.eval = us) (hcf : ∀ w : World, (callFunc f us.toArray).run P w = .ok (.enter f us.toArray) w)
    (Post : Value → World → Prop) (hc : Calls P f us.toArray w fun e w' => ∃ v, e = .returned v ∧ Post v w') (hK : ∀ v w', Post v w' → K (a.put o.dst v) w') : if Region.wanted o (yielded ops a.tmps) = true then Oper.wp P o a w K Q else E := by
  have hw : Region.wanted o (yielded ops a.tmps) = true := by simp [Region.wanted, hgd]
  rw [if_pos hw]
  have hf : a.eval (.func f) = .func (.func f) #[] #[] := rfl
  have hr : (execOp a.eval o).run P w = .ok (.enter f us.toArray) w := by
    unfold execOp
    simp only [ho, resolve, invoke, Sem.run_bind, List.map_toArray, hx, hf]
    simp [go_sem, hcf]
  unfold Oper.wp
  rw [hr, Oper.upon_enter]
  refine hc.mono ?_
  rintro e w' ⟨v, rfl, hb⟩
  exact hK _ _ hb

/-- The lists while they are written over: their lengths stay. -/
def OvI (w W : World) (b g : Nat) (Gs N : List Nat) : Prop := ∃ Ls : List (List V), LsM W b g Gs Ls ∧ Ls.map (·.length) = N ∧ Below b w W
theorem OvI.next {w W W' : World} {b g : Nat} {Gs N : List Nat} (h : OvI w W b g Gs N) (k : Below W.heap.size W W') : OvI w W' b g Gs N := by
  obtain ⟨Ls, h1, h2, h3⟩ := h
  exact ⟨Ls, h1.next k, h2, h3.trans (k.mono (Nat.le_trans h1.gb (Nat.le_of_lt (by obtain ⟨z, hz⟩ := h1.out; exact hz.lt))))⟩
theorem OvI.len {w W : World} {b g : Nat} {Gs N : List Nat} (h : OvI w W b g Gs N) : Gs.length = N.length := by
  obtain ⟨Ls, h1, h2, h3⟩ := h
  rw [h1.len, ← h2, List.length_map]
theorem OvI.sl {w W : World} {b g : Nat} {Gs N : List Nat} (h : OvI w W b g Gs N) (i : Nat) (hi : i < N.length) (hg : i < Gs.length) : W.cell? ⟨g, i, none⟩ = some (.slice (some ⟨Gs[i], 0, none⟩) N[i] (N[i] + 1)) := by
  obtain ⟨Ls, h1, h2, h3⟩ := h
  subst h2
  have hl : i < Ls.length := by rw [List.length_map] at hi; exact hi
  obtain ⟨z, hz⟩ := h1.out
  refine (hz.cell i _ ?_).1
  rw [List.getElem?_append_left (by rw [zipL_len h1.len]; exact hl), zipL_at hl hg, List.getElem_map]
theorem OvI.at {w W : World} {b g : Nat} {Gs N : List Nat} (h : OvI w W b g Gs N) (i : Nat) (hi : i < N.length) (hg : i < Gs.length) (j : Nat) (hj : j < N[i]) : ∃ k n s, (W.cell? ⟨Gs[i], j * 3, none⟩ = some (.int .i64 k) ∧ W.cell? ⟨Gs[i], j * 3 + 1, none⟩ = some (.int .i64 n) ∧ W.cell? ⟨Gs[i], j * 3 + 2, none⟩ = some (.string s)) ∧ W.there Gs[i] (j * 3) 3 ∧ ∀ Y, Below W.heap.size W Y → OvI w (Y.setCells Gs[i] (j * 3) (vc (k, anN k n, s))) b g Gs N := by
  obtain ⟨Ls, h1, h2, h3⟩ := h
  subst h2
  have hl : i < Ls.length := by rw [List.length_map] at hi; exact hi
  rw [List.getElem_map] at hj
  obtain ⟨r, hr⟩ := h1.each i hg hl
  have hv : vIn Ls[i][j] := h1.vin _ (List.getElem_mem hl) _ (List.getElem_mem hj)
  refine ⟨Ls[i][j].1, Ls[i][j].2.1, Ls[i][j].2.2, hr.thr j hj, hr.there _ _ (by rw [List.length_append, vc_len]; omega), fun Y hY => ?_⟩
  have hz : b ≤ W.heap.size := Nat.le_trans h1.gb (Nat.le_of_lt (by obtain ⟨z, hz⟩ := h1.out; exact hz.lt))
  refine ⟨_, (h1.next hY).put i hl hg j hj _ (anN_in hv), ?_, (h1.next hY).bel (h3.trans (hY.mono hz)) i hg _ _⟩
  rw [List.map_set, List.length_set]
  have e : (Ls.map (·.length))[i]'hi = Ls[i].length := List.getElem_map ..
  rw [← e, List.set_getElem_self]
set_option maxRecDepth 100000 in
set_option maxHeartbeats 8000000 in
theorem over_any {w : World} {b g cp : Nat} {Gs N : List Nat} (h : OvI w w b g Gs N) (b0 : N.length ≤ 17592186043904) (b1 : ∀ m ∈ N, m ≤ 17592186043904) :
    Calls Tryd.prog 9 #[.slice none 0 0, .slice (some ⟨g, 0, none⟩) N.length cp] w fun e w' => (∃ r, e = .returned r) ∧ Hid (OvI w w' b g Gs N) := by
  have H0 : Hid (OvI w w b g Gs N) := h
  have HL : Hid (Gs.length = N.length) := h.len
  have HM : Hid (∀ m ∈ N, m ≤ 17592186043904) := b1
  have n0 : (0 : Int) ≤ (N.length : Int) := by omega
  have n2 : (N.length : Int) ≤ 17592186043904 := by omega
  clear h b1 b0
  go_enter Tryd.func9, Tryd.ntmps9
  go_wp2_with fail
  go_loopw [4] (fun i wr => i = .int .i64 0 ∧ wr = w) (fun _ _ => 0)
  case atStart => exact ⟨rfl, rfl⟩
  case round =>
    obtain ⟨rfl, rfl⟩ := hrel
    go_wp2_with fail
    obtain ⟨w, rfl⟩ : ∃ w, w = wr := ⟨wr, rfl⟩
    go_loopw [5] (fun i wr => ∃ j : Nat, j ≤ N.length ∧ i = .int .i64 (j : Int) ∧ Hid (OvI w wr b g Gs N)) (fun i _ => N.length - (intOf i).toNat)
    case atStart => exact ⟨0, Nat.zero_le _, rfl, H0⟩
    case round =>
      obtain ⟨i, hi, rfl, hI⟩ := hrel
      clear H0
      have i0 : (0 : Int) ≤ (i : Int) := by omega
      by_cases hlt : i < N.length
      case neg =>
        obtain rfl : i = N.length := by omega
        have p1 : ¬ (N.length : Int) < (N.length : Int) := by omega
        go_wp2_with fail
        go_end0
        exact ⟨⟨_, rfl⟩, hI⟩
      have hg : i < Gs.length := by rw [HL.out]; exact hlt
      have i1 : (i : Int) < (N.length : Int) := by omega
      have HLT : Hid (i < N.length) := hlt
      have HS : Hid (∀ W, OvI w W b g Gs N → W.cell? ⟨g, i, none⟩ = some (.slice (some ⟨Gs[i], 0, none⟩) N[i] (N[i] + 1))) := fun W hW => hW.sl i hlt hg
      have HA : Hid (∀ W, OvI w W b g Gs N → ∀ j, j < N[i] → ∃ k n s, (W.cell? ⟨Gs[i], j * 3, none⟩ = some (.int .i64 k) ∧ W.cell? ⟨Gs[i], j * 3 + 1, none⟩ = some (.int .i64 n) ∧ W.cell? ⟨Gs[i], j * 3 + 2, none⟩ = some (.string s)) ∧ W.there Gs[i] (j * 3) 3 ∧ ∀ Y, Below W.heap.size W Y → OvI w (Y.setCells Gs[i] (j * 3) (vc (k, anN k n, s))) b g Gs N) := fun W hW j hj => hW.at i hlt hg j hj
      have hm := HM.out N[i] (List.getElem_mem hlt)
      generalize Gs[i] = G at *
      generalize N[i] = m at *
      have m0 : (0 : Int) ≤ (m : Int) := by omega
      have m2 : (m : Int) ≤ 17592186043904 := by omega
      clear hlt hi hg hm HM
      go_wp2_with fail
      obtain ⟨wo, rfl⟩ : ∃ wo, wo = wr := ⟨wr, rfl⟩
      go_loopw [6] (fun jv wr => ∃ j : Nat, j ≤ m ∧ jv = .int .i64 (j : Int) ∧ Hid (OvI w wr b g Gs N)) (fun jv _ => m - (intOf jv).toNat)
      case atStart => exact ⟨0, Nat.zero_le _, rfl, hI⟩
      case round =>
        obtain ⟨j, hj, rfl, hJ⟩ := hrel
        clear hI
        have j0 : (0 : Int) ≤ (j : Int) := by omega
        have c0 := HS.out wr hJ.out
        by_cases hlt : j < m
        case neg =>
          obtain rfl : j = m := by omega
          have p1 : ¬ (j : Int) < (j : Int) := by omega
          go_wp2_with fail
          have := HLT.out
          exact ⟨⟨i + 1, by omega, by go_num, hJ⟩, by simp [intOf]; omega⟩
        obtain ⟨k, n, s, ⟨d0, d1, d2⟩, hth, hst⟩ := HA.out wr hJ.out j hlt
        have j1 : (j : Int) < (m : Int) := by omega
        have HST : Hid (∀ Y, Below wr.heap.size wr Y → OvI w (Y.setCells G (j * 3) (vc (k, anN k n, s))) b g Gs N) := hst
        have HTH : Hid (wr.there G (j * 3) 3) := hth
        have hGlt : G < wr.heap.size := block_lt_of_cell d0
        have HJ : Hid (OvI w wr b g Gs N) := hJ
        clear hJ hst hth HS HA
        go_wp2_with fail
        have bd : Below wr.heap.size wr wr.drew := (Below.refl _ wr).drew
        have HN9 : Hid (∀ Y, Below wr.drew.heap.size wr.drew Y → (Y.cell? ⟨g, i, none⟩ = some (.slice (some ⟨G, 0, none⟩) m (m + 1)) ∧ (Y.cell? ⟨G, j * 3, none⟩ = some (.int .i64 k) ∧ Y.frozen? ⟨G, j * 3, none⟩ = false) ∧ (Y.cell? ⟨G, j * 3 + 1, none⟩ = some (.int .i64 n) ∧ Y.frozen? ⟨G, j * 3 + 1, none⟩ = false) ∧ (Y.cell? ⟨G, j * 3 + 2, none⟩ = some (.string s) ∧ Y.frozen? ⟨G, j * 3 + 2, none⟩ = false)) ∧ OvI w (Y.setCells G (j * 3) (vc (k, anN k n, s))) b g Gs N) := fun Y hY => by
          have hb := bd.trans (hY.mono bd.size)
          have fz : ∀ a : Nat, a < 3 → Y.frozen? ⟨G, j * 3 + a, none⟩ = false := fun a ha => ((World.frozen?_of_block (w := wr) (w' := Y) (a := ⟨G, j * 3 + a, none⟩) (hb.block G hGlt))).trans (HTH.out a ha).2
          exact ⟨⟨(hb.cell (p := ⟨g, i, none⟩) (World.block_lt_of_cell? wr _ c0)).trans c0, ⟨(hb.cell (p := ⟨G, j * 3, none⟩) hGlt).trans d0, fz 0 (by omega)⟩, ⟨(hb.cell (p := ⟨G, j * 3 + 1, none⟩) hGlt).trans d1, fz 1 (by omega)⟩, ⟨(hb.cell (p := ⟨G, j * 3 + 2, none⟩) hGlt).trans d2, fz 2 (by omega)⟩⟩, HST.out Y hb⟩
        have c0' : wr.drew.cell? ⟨g, i, none⟩ = some (.slice (some ⟨G, 0, none⟩) m (m + 1)) := c0
        have d0' : wr.drew.cell? ⟨G, j * 3, none⟩ = some (.int .i64 k) := d0
        have d1' : wr.drew.cell? ⟨G, j * 3 + 1, none⟩ = some (.int .i64 n) := d1
        have d2' : wr.drew.cell? ⟨G, j * 3 + 2, none⟩ = some (.string s) := d2
        have dA := another_any k n s wr.drew
        clear bd HTH HST hGlt
        go_region_law (first
          | (refine step_call (by rfl) 14 [.tmp 49] _ [.agg #[.int .i64 k, .int .i64 n, .string s]] (by rfl) (by rfl) (callAn _) (fun v w' => v = .agg #[.int .i64 k, .int .i64 (anN k n), .string s] ∧ Hid (Below wr.drew.heap.size wr.drew w')) (dA.mono fun _ _ q => ⟨_, q.1, rfl, q.2⟩) ?_; rintro v9 w9 ⟨rfl, H9⟩; obtain ⟨⟨p0, ⟨p1, p2⟩, ⟨p3, p4⟩, p5, p6⟩, -⟩ := HN9.out w9 H9.out)
          | fail)
        all_goals
          have HF : Hid (OvI w (((w9.setCell ⟨G, j * 3, none⟩ (.int .i64 k)).setCell ⟨G, j * 3 + 1, none⟩ (.int .i64 (anN k n))).setCell ⟨G, j * 3 + 2, none⟩ (.string s)) b g Gs N) := (HN9.out w9 H9.out).2
          generalize ((w9.setCell ⟨G, j * 3, none⟩ (.int .i64 k)).setCell ⟨G, j * 3 + 1, none⟩ (.int .i64 (anN k n))).setCell ⟨G, j * 3 + 2, none⟩ (.string s) = W9 at HF ⊢
          clear p0 p1 p2 p3 p4 p5 p6 c0 d0 d1 d2 c0' d0' d1' d2' dA HN9 H9 HJ
          go_wp2_with fail
          exact ⟨⟨j + 1, by omega, by go_num, HF⟩, by simp [intOf]; omega⟩
end Go.Proofs.YtljhobjgofhldaaDoor
