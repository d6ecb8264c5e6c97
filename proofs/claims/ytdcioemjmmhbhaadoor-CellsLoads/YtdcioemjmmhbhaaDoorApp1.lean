import Derived.Test.YtdcioemjmmhbhaaDoorJa
import Derived.Laws.AppendOwn
import Derived.Deep.DeepAppendWide
import Derived.Laws.OwnMore
namespace Go.Proofs.YtdcioemjmmhbhaaDoor
open Go.RowKit

section
variable {P : Program} {w : World} {base : Nat} {e : TypeId} {size : Nat}

theorem own_low {w' : World} {B : Nat} {v : Value} {n : Nat} {xs : List Value} (h : w.ownsRow base e size v n xs) (hlt : ∀ g, v.ownBlock = some g → g < B) (hb : Below B w w') : w'.ownsRow base e size v n xs := own_same h fun g hg => hb.block g (hlt g hg)
theorem own_rebase {b c : Nat} {v : Value} {n : Nat} {xs : List Value} (h : w.ownsRow b e size v n xs) (hc : ∀ g, v.ownBlock = some g → c ≤ g) : w.ownsRow c e size v n xs := by
  refine ⟨h.1, ?_⟩
  rcases h.2 with h | ⟨g, cap, cur, rfl, h2, h3⟩
  · exact .inl h
  · exact .inr ⟨g, cap, cur, rfl, hc g rfl, h3⟩
theorem own_down {b c : Nat} {v : Value} {n : Nat} {xs : List Value} (h : w.ownsRow b e size v n xs) (hc : c ≤ b) : w.ownsRow c e size v n xs := own_rebase h fun g hg => Nat.le_trans hc (h.lt g hg).1

/-- One element more: whatever room there is. -/
theorem app_any (t ty : TypeId) (z : Value) (bytes : Nat) (ht : P.underlying t = some (.slice e)) (hinf : (P.info? e).map (fun i => (i.zero, i.size, i.bytes)) = some (some z, size, bytes)) (hzs : z.cells.size = size) (hsz : 0 < size) (hby : bytes ≤ 100)
    (v : Value) (n : Nat) (xs : List Value) (hown : w.ownsRow base e size v n xs) (g : Nat) (C : List Value) (hC : C.length = size) (h1 : ∀ u ∈ C, u.oneCell' = true) (hr : w.rangeAt g 0 C) (h40 : n + 1 ≤ 1000000000) (hbase : base ≤ w.heap.size) :
    ∃ v' w', (Builtin.append_ #[t, t] ty #[v, .slice (some ⟨g, 0, none⟩) 1 1]).run P w = .ok v' w' ∧ w'.ownsRow base e size v' (n + 1) (xs ++ C) ∧ w.grownBy w' v.ownBlock := by
  obtain ⟨i, hi, hz0, hz1, hz2⟩ := info_parts hinf
  have hb : (n + 1) * bytes ≤ 140737488355328 := Nat.le_trans (Nat.mul_le_mul h40 hby) (by decide)
  obtain ⟨v', w', hr, h2, h3, _⟩ := run_append_own (P := P) w base t ty e i z size bytes ht hi hz0 hz1 hz2 hzs hsz v n xs hown ⟨g, 0, none⟩ 1 1 C (by rw [Nat.one_mul]; exact hC)
    (fun j u hu => by rw [Addr.add_mid]; exact hr j u hu) h1 (by unfold maxLen; omega) hb hbase
  exact ⟨v', w', hr, h2, h3⟩

/-- One element more, where there is room. -/
theorem app_in (t ty : TypeId) (z : Value) (bytes : Nat) (ht : P.underlying t = some (.slice e)) (hinf : (P.info? e).map (fun i => (i.zero, i.size, i.bytes)) = some (some z, size, bytes)) (hzs : z.cells.size = size) (hsz : 0 < size) (hby : bytes ≤ 100)
    (G n cap : Nat) (xs : List Value) (hown : w.ownsRow base e size (.slice (some ⟨G, 0, none⟩) n cap) n xs) (g : Nat) (C : List Value) (hC : C.length = size) (h1 : ∀ u ∈ C, u.oneCell' = true) (hr : w.rangeAt g 0 C) (h40 : n + 1 ≤ 1000000000) (hbase : base ≤ w.heap.size) (hroom : n + 1 ≤ cap) :
    ∃ w', (Builtin.append_ #[t, t] ty #[.slice (some ⟨G, 0, none⟩) n cap, .slice (some ⟨g, 0, none⟩) 1 1]).run P w = .ok (.slice (some ⟨G, 0, none⟩) (n + 1) cap) w' ∧ w'.ownsRow base e size (.slice (some ⟨G, 0, none⟩) (n + 1) cap) (n + 1) (xs ++ C) ∧ w.grownBy w' (some G) := by
  obtain ⟨v', w', hr2, h2, h3⟩ := app_any t ty z bytes ht hinf hzs hsz hby _ n xs hown g C hC h1 hr h40 hbase
  obtain ⟨i, hi, hz0, hz1, hz2⟩ := info_parts hinf
  rcases hown.2 with ⟨hv, _⟩ | ⟨g', cap', cur, hv, hbg, hg, hnc, hcm, hcs, htake⟩
  · cases hv
  · simp only [Value.slice.injEq, Option.some.injEq, Addr.mk.injEq] at hv
    obtain ⟨⟨rfl, _⟩, _, rfl⟩ := hv
    have hr3 := run_append_room (P := P) w t ty e i ht hi G n cap cur hg ⟨g, 0, none⟩ 1 1 C (by rw [hz1, Nat.one_mul]; exact hC) (fun j u hu => by rw [Addr.add_mid]; exact hr j u hu) h1 hroom (by rw [hC, hcs, hz1]; have := Nat.mul_le_mul_right size hroom; rw [Nat.succ_mul] at this; exact this)
    rw [hr2] at hr3
    injection hr3 with e1 e2
    subst e1
    exact ⟨w', hr2, h2, h3⟩

/-- One element more, where there is no room: all that was is as it was. -/
theorem app_new (t ty : TypeId) (z : Value) (bytes : Nat) (ht : P.underlying t = some (.slice e)) (hinf : (P.info? e).map (fun i => (i.zero, i.size, i.bytes)) = some (some z, size, bytes)) (hzs : z.cells.size = size) (hsz : 0 < size) (hby : bytes ≤ 100)
    (q : Option Addr) (n : Nat) (xs : List Value) (hown : w.ownsRow base e size (.slice q n n) n xs) (g : Nat) (C : List Value) (hC : C.length = size) (h1 : ∀ u ∈ C, u.oneCell' = true) (hr : w.rangeAt g 0 C) (h40 : n + 1 ≤ 1000000000) (hbase : base ≤ w.heap.size) :
    ∃ v' w', (Builtin.append_ #[t, t] ty #[.slice q n n, .slice (some ⟨g, 0, none⟩) 1 1]).run P w = .ok v' w' ∧ w'.ownsRow w.heap.size e size v' (n + 1) (xs ++ C) ∧ Below w.heap.size w w' := by
  obtain ⟨v', w', hr2, h2, h3⟩ := app_any t ty z bytes ht hinf hzs hsz hby _ n xs hown g C hC h1 hr h40 hbase
  obtain ⟨i, hi, hz0, hz1, hz2⟩ := info_parts hinf
  have hl2 : C.length = 1 * i.size := by rw [hz1, Nat.one_mul]; exact hC
  have hb : (n + 1) * bytes ≤ 140737488355328 := Nat.le_trans (Nat.mul_le_mul h40 hby) (by decide)
  have hnews : ∀ j u, C[j]? = some u → w.cell? ((⟨g, 0, none⟩ : Addr).add j) = some u := fun j u hu => by rw [Addr.add_mid]; exact hr j u hu
  have key : v'.ownBlock = some w.heap.size ∧ Below w.heap.size w w' := by
    rcases hown.2 with ⟨hv, hn⟩ | ⟨G, cap, cur, hv, hbg, hg, hnc, hcm, hcs, htake⟩
    · cases hv
      have hr3 := run_append_nil (P := P) w t ty e i z ht hi hz0 ⟨g, 0, none⟩ 1 1 C hl2 hnews (by omega) (by omega) (by rw [hz2]; omega)
      rw [hr2] at hr3
      injection hr3 with e1 e2
      subst e1 e2
      exact ⟨rfl, ((Below.refl _ w).drew).alloc (Nat.le_refl _) _⟩
    · cases hv
      have holds : ∀ j x, xs[j]? = some x → w.cell? ((⟨G, 0, none⟩ : Addr).add j) = some x := hown.cells (g := G) rfl
      have hr3 := run_append_grow (P := P) w t ty e i z ht hi hz0 ⟨G, 0, none⟩ n n xs (by rw [hz1]; exact hown.1) holds ⟨g, 0, none⟩ 1 1 C hl2 hnews (by omega) (by omega) (by rw [hz2]; exact growslice_fits_wide (by omega) (by have := Nat.mul_le_mul_left ((n + 1) + (n + 1) / 4 + 192) hby; omega))
      rw [hr2] at hr3
      injection hr3 with e1 e2
      subst e1 e2
      exact ⟨rfl, ((Below.refl _ w).drew).alloc (Nat.le_refl _) _⟩
  exact ⟨v', w', hr2, own_rebase h2 (fun g' hg' => by rw [key.1] at hg'; cases hg'; exact Nat.le_refl _), key.2⟩

/-- An append whose run is known, for the walk. -/
theorem wpList_apr {ops : Array Oper} {rest : List Oper} {o : Oper} {a : Act} {Q : Exit → Act → World → Prop} {v' : Value} {w' : World} (hgd : o.guard = none) (s x : Operand) (t : TypeId)
    (ho : o.op = .call { callee := .builtin .append, args := #[s, x], argTypes := #[t, t] }) (hr : (Builtin.append_ #[t, t] o.type #[a.eval s, a.eval x]).run P w = .ok v' w')
    (h : wpList P ops Q rest (a.put o.dst v') w') : wpList P ops Q (o :: rest) a w := by
  refine wpList_plain hgd fun K hK => ?_
  unfold Oper.wp execOp
  simp only [ho, resolve, invoke, builtin, Sem.run_bind, Sem.run_pure, Result.andThen_ok, List.map_toArray, List.map_cons, List.map_nil, hr]
  exact hK _ _ h
end
end Go.Proofs.YtdcioemjmmhbhaaDoor
