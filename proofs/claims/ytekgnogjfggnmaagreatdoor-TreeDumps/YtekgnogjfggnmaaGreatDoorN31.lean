import Derived.Deep.DeepAppendWide
import Derived.OneCell
import Derived.Test.YtekgnogjfggnmaaGreatDoorN29
namespace Go.Proofs.YtekgnogjfggnmaaGreatDoor.ApN
open Go.RowKit
section
variable {P : Program} {w : World} {base : Nat} {e : TypeId} {size : Nat}
theorem app_one (t ty : TypeId) (i : TypeInfo) (z : Value) (bytes : Nat) (ht : P.underlying t = some (.slice e)) (hi : P.info? e = some i) (hz : i.zero = some z)
 (hsize : i.size = size) (hby : i.bytes = bytes) (hzs : z.cells.size = size) (hsz : 0 < size)
 (v : Value) (n : Nat) (xs : List Value) (hown : w.ownsRow base e size v n xs)
 (a : Addr) (c : Nat) (us : List Value) (hl : us.length = size) (hnews : ∀ j u, us[j]? = some u → w.cell? (a.add j) = some u) (h1 : ∀ u ∈ us, u.oneCell' = true)
 (h63 : n + 1 ≤ maxLen) (hbytes : ((n + 1) + (n + 1) / 4 + 192) * bytes ≤ 281474976710656) (hbase : base ≤ w.heap.size) :
 ∃ v' w', (Builtin.append_ #[t, t] ty #[v, .slice (some a) 1 c]).run P w = .ok v' w' ∧ w'.ownsRow base e size v' (n + 1) (xs ++ us) ∧ w.grownBy w' v.ownBlock ∧
  ((∃ g cap, v = .slice (some ⟨g, 0, none⟩) n cap ∧ v' = .slice (some ⟨g, 0, none⟩) (n + 1) cap) ∨ (v'.ownBlock = some w.heap.size ∧ Below w.heap.size w w')) := by
 have hl1 : us.length = 1 * size := by omega
 have hl2 : us.length = 1 * i.size := by rw [hsize]; exact hl1
 obtain ⟨v', w', hr, hown', hgrow, _⟩ := run_append_own_wide (P := P) w base t ty e i z size bytes ht hi hz hsize hby hzs hsz v n xs hown a 1 c us hl1 hnews h1 h63 hbytes hbase
 refine ⟨v', w', hr, hown', hgrow, ?_⟩
 have hsm : n + 1 ≤ 9223372036854775807 := by unfold maxLen at h63; omega
 have hb1 : 1 * i.bytes ≤ 281474976710656 := by
  rw [hby]
  refine Nat.le_trans (Nat.mul_le_mul_right _ ?_) hbytes
  omega
 rcases hown.2 with ⟨rfl, rfl⟩ | ⟨g, cap, cur, rfl, hbg, hg, hnc, hcm, hcs, htake⟩
 ·have hr2 := run_append_nil (P := P) w t ty e i z ht hi hz a 1 c us hl2 hnews (by omega) (by omega) hb1
  rw [hr] at hr2
  injection hr2 with e1 e2
  subst e1 e2
  exact Or.inr ⟨rfl, ((Below.refl _ w).drew).alloc (Nat.le_refl _) _⟩
 ·by_cases hroom : n + 1 ≤ cap
  ·have hr2 := run_append_room (P := P) w t ty e i ht hi g n cap cur hg a 1 c us hl2 hnews h1 hroom (by rw [hl2, hcs, hsize, ← Nat.add_mul]; exact Nat.mul_le_mul_right _ hroom)
   rw [hr] at hr2
   injection hr2 with e1 e2
   exact Or.inl ⟨g, cap, rfl, e1⟩
  ·have holds : ∀ j x, xs[j]? = some x → w.cell? ((⟨g, 0, none⟩ : Addr).add j) = some x := hown.cells (g := g) rfl
   have hr2 := run_append_grow (P := P) w t ty e i z ht hi hz ⟨g, 0, none⟩ n cap xs (by rw [hsize]; exact hown.1) holds a 1 c us hl2 hnews (by omega) (by omega) (by rw [hby]; exact growslice_fits_wide (by omega) hbytes)
   rw [hr] at hr2
   injection hr2 with e1 e2
   subst e1 e2
   exact Or.inr ⟨rfl, ((Below.refl _ w).drew).alloc (Nat.le_refl _) _⟩
theorem wpList_app {ops : Array Oper} {rest : List Oper} {o : Oper} {a : Act} {Q : Exit → Act → World → Prop} {v' : Value} {w' : World} (hgd : o.guard = none) (s x : Operand) (t : TypeId)
 (ho : o.op = .call { callee := .builtin .append, args := #[s, x], argTypes := #[t, t] }) (hr : (Builtin.append_ #[t, t] o.type #[a.eval s, a.eval x]).run P w = .ok v' w')
 (h : wpList P ops Q rest (a.put o.dst v') w') : wpList P ops Q (o :: rest) a w := by
 refine wpList_plain hgd fun K hK => ?_
 unfold Oper.wp execOp
 simp only [ho, resolve, invoke, builtin, Sem.run_bind, Sem.run_pure, Result.andThen_ok, List.map_toArray, List.map_cons, List.map_nil, hr]
 exact hK _ _ h
theorem own_ne {v u : Value} {n m r : Nat} {xs ys : List Value} (h : w.ownsRow base e size v n xs) (k : w.ownsRow base e size u m ys) (h0 : r < n * size) (k0 : r < m * size) (hne : xs[r]? ≠ ys[r]?) : v.ownBlock ≠ u.ownBlock := by
 rcases h.2 with ⟨_, hn⟩ | ⟨g, cap, cur, rfl, _, hg, hnc, _, hcs, htake⟩
 ·rw [hn] at h0; omega
 ·rcases k.2 with ⟨_, hm⟩ | ⟨g', cap', cur', rfl, _, hg', hnc', _, hcs', htake'⟩
  ·rw [hm] at k0; omega
  ·intro heq
   have eg : g = g' := by simpa [Value.ownBlock] using heq
   subst eg
   rw [hg] at hg'
   simp only [Option.some.injEq, Obj.cells.injEq] at hg'
   obtain ⟨rfl, _, _⟩ := hg'
   apply hne
   rw [← htake, ← htake', List.getElem?_take_of_lt h0, List.getElem?_take_of_lt k0]
theorem own_kept {w' : World} {v : Value} {n : Nat} {xs : List Value} {row : Option Nat} (h : w.ownsRow base e size v n xs) (hg : w.grownBy w' row) (hne : v.ownBlock ≠ row ∨ v.ownBlock = none) : w'.ownsRow base e size v n xs :=
 h.kept hg (hne.elim Or.inr Or.inl)
theorem own_stays {w' : World} {v : Value} {n : Nat} {xs : List Value} (h : w.ownsRow base e size v n xs) (hb : Below w.heap.size w w') : w'.ownsRow base e size v n xs :=
 h.kept ⟨hb.os, hb.tape, hb.output, hb.size, fun k hk _ => hb.block k hk⟩ (row := none) (by cases hv : v.ownBlock with | none => exact Or.inl rfl | some k => exact Or.inr (by simp))
theorem own_head {g n m cap : Nat} {xs ys : List Value} (h : w.ownsRow base e size (.slice (some ⟨g, 0, none⟩) m cap) m ys) (hnm : n ≤ m) (hx : xs = ys.take (n * size)) (hlen : xs.length = n * size) : w.ownsRow base e size (.slice (some ⟨g, 0, none⟩) n cap) n xs := by
 rcases h.2 with ⟨hv, _⟩ | ⟨g', cap', cur, hv, hb, hg, hnc, hcm, hcs, htake⟩
 ·simp at hv
 ·simp only [Value.slice.injEq, Option.some.injEq, Addr.mk.injEq] at hv
  obtain ⟨⟨rfl, _⟩, _, rfl⟩ := hv
  refine ⟨hlen, Or.inr ⟨g, cap, cur, rfl, hb, hg, by omega, hcm, hcs, ?_⟩⟩
  rw [hx, ← htake, List.take_take]
  congr 1
  have := Nat.mul_le_mul_right size hnm
  omega
theorem own_cap {g n m cap cap' : Nat} {xs ys : List Value} (hsz : 0 < size) (h : w.ownsRow base e size (.slice (some ⟨g, 0, none⟩) n cap) n xs) (k : w.ownsRow base e size (.slice (some ⟨g, 0, none⟩) m cap') m ys) : cap = cap' := by
 rcases h.2 with ⟨hv, _⟩ | ⟨g1, c1, cur, hv, _, hg, _, _, hcs, _⟩
 ·simp at hv
 ·rcases k.2 with ⟨hu, _⟩ | ⟨g2, c2, cur', hu, _, hg', _, _, hcs', _⟩
  ·simp at hu
  ·simp only [Value.slice.injEq, Option.some.injEq, Addr.mk.injEq] at hv hu
   obtain ⟨⟨rfl, _⟩, _, rfl⟩ := hv
   obtain ⟨⟨rfl, _⟩, _, rfl⟩ := hu
   rw [hg] at hg'
   simp only [Option.some.injEq, Obj.cells.injEq] at hg'
   obtain ⟨rfl, _, _⟩ := hg'
   exact Nat.eq_of_mul_eq_mul_right hsz (hcs.symm.trans hcs')
def putL : List Value → Nat → List Value → List Value
 | xs, _, [] => xs
 | xs, o, v :: r => putL (xs.set o v) (o + 1) r
theorem putL_at (A : List Value) : ∀ (vs B : List Value), vs.length ≤ B.length → putL (A ++ B) A.length vs = A ++ vs ++ B.drop vs.length := by
 intro vs
 induction vs generalizing A with
 | nil => intro B _; simp [putL]
 | cons v r ih =>
  intro B hB
  cases B with
  | nil => simp at hB
  | cons b B =>
   unfold putL
   rw [List.set_append_right _ _ (Nat.le_refl _), Nat.sub_self, List.set_cons_zero]
   have := ih (A ++ [v]) B (by simpa using hB)
   rw [List.length_append, List.append_assoc] at this
   simp only [List.length_cons, List.length_nil, Nat.zero_add, List.cons_append, List.nil_append] at this
   rw [this]
   simp
theorem storedL {g n cap : Nat} : ∀ (vs xs : List Value) (o : Nat) {w : World}, w.ownsRow base e size (.slice (some ⟨g, 0, none⟩) n cap) n xs →
 (w.setCells g o vs).ownsRow base e size (.slice (some ⟨g, 0, none⟩) n cap) n (putL xs o vs) ∧ w.grownBy (w.setCells g o vs) (some g)
 | [], xs, o, w, h => ⟨h, ⟨rfl, rfl, rfl, Nat.le_refl _, fun _ _ _ => rfl⟩⟩
 | v :: r, xs, o, w, h => by
  obtain ⟨h1, h2⟩ := h.stored o v
  obtain ⟨h3, h4⟩ := storedL r (xs.set o v) (o + 1) h1
  exact ⟨h3, ⟨h4.os.trans h2.os, h4.tape.trans h2.tape, h4.output.trans h2.output, Nat.le_trans h2.size h4.size, fun k hk hne => (h4.block k (Nat.lt_of_lt_of_le hk h2.size) hne).trans (h2.block k hk hne)⟩⟩
end
end Go.Proofs.YtekgnogjfggnmaaGreatDoor.ApN
