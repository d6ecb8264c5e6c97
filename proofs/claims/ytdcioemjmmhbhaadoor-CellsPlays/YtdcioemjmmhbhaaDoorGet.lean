import Derived.Test.YtdcioemjmmhbhaaDoorPlace
namespace Go.Proofs.YtdcioemjmmhbhaaDoor
open Go.RowKit

def zv : V := (0, 0, e0)
/-- What find, place and Get answer, over what the heap holds. -/
def findH (A : Hp) (v : V) : (Int × List V) × Int := if mayS v 4 A.length = false then ((0, []), 7) else if v.2.1 = 0 then ((0, []), 0) else (A.getD (v.2.1.toNat - 1) (0, []), 0)
def placeH (A : Hp) (v : V) (i : Int) : (Int × List V) × Int := if (findH A v).2 = 0 ∧ (i < 0 ∨ ((findH A v).1.2.length : Int) ≤ i) then ((0, []), 2) else findH A v
def getH (A : Hp) (v : V) (i : Int) : V × Int := if (placeH A v i).2 = 0 then ((placeH A v i).1.2.getD i.toNat zv, 0) else (zv, (placeH A v i).2)
theorem find_abs (As : List Ar) (v : V) : findH (absA As) v = (((findA As v).1.kind, (findA As v).1.els), (findA As v).2) := by
  unfold findH findA
  rw [abs_len]
  split
  · rfl
  split
  · rfl
  · rw [List.getD_eq_getElem?_getD, List.getD_eq_getElem?_getD]
    unfold absA
    rw [List.getElem?_map]
    cases As[v.2.1.toNat - 1]? <;> rfl
theorem place_abs (As : List Ar) (v : V) (i : Int) : placeH (absA As) v i = (((placeA As v i).1.kind, (placeA As v i).1.els), (placeA As v i).2) := by
  unfold placeH placeA
  rw [find_abs]
  simp only
  split <;> rfl
/-- Where there is no trap, the array is there and has the place. -/
theorem place_ok {As : List Ar} {v : V} {i : Int} (h : (placeA As v i).2 = 0) : ∃ (j : Nat) (m : Nat), v.2.1 = (j : Int) + 1 ∧ i = (m : Int) ∧ mayS v 4 As.length = true ∧ ∃ (hj : j < As.length), (placeA As v i).1 = As[j] ∧ m < As[j].els.length := by
  unfold placeA at h
  split at h
  · cases h
  · rename_i hq
    have hp : placeA As v i = findA As v := by unfold placeA; rw [if_neg hq]
    rw [hp]
    have hq2 : ¬ (i < 0 ∨ ((findA As v).1.els.length : Int) ≤ i) := fun q => hq ⟨h, q⟩
    clear hp hq
    unfold findA at h hq2 ⊢
    split at h
    · cases h
    rename_i hm
    rw [if_neg hm] at hq2 ⊢
    have hm' : mayS v 4 As.length = true := by simpa using hm
    obtain ⟨_, r1, r2, _⟩ := may_ref hm'
    split at h
    · rename_i hz
      rw [if_pos hz] at hq2
      exfalso
      apply hq2
      simp only [za, List.length_nil]
      omega
    · rename_i hz
      rw [if_neg hz] at hq2 ⊢
      have hj : v.2.1.toNat - 1 < As.length := by omega
      rw [List.getD_eq_getElem?_getD, List.getElem?_eq_getElem hj, Option.getD_some] at hq2 ⊢
      exact ⟨v.2.1.toNat - 1, i.toNat, by omega, by omega, hm', hj, rfl, by simp only at hq2; omega⟩
theorem ok_small {k n : Int} {s : ByteArray} (h : okV k n s = true) : s.size ≤ 256 := by
  have h0 : s.toList = [] → s.size ≤ 256 := fun e => by rw [eq_e0 e]; decide
  unfold okV at h
  repeat' split at h
  all_goals simp at h
  · exact h0 h.2
  · exact h0 h
  · exact h0 h.2
  · omega
  · exact h0 h.2
theorem may_small {v : V} {kind : Int} {n : Nat} (h : mayS v kind n = true) : v.2.2.size ≤ 256 := by
  unfold mayS at h
  simp only [Bool.and_eq_true] at h
  exact ok_small h.1.2

set_option maxRecDepth 100000 in
set_option maxHeartbeats 2000000 in
theorem get_at {w : World} {p lim : Nat} {As : List Ar} {rq : Option Addr} {rn rg ro : Nat} {av : Value} {F : Nat → Prop} (h : HeapAt w p lim As rq rn rg ro av F) (k n : Int) (s : ByteArray) (i : Int) (hs : s.size ≤ 9223372036854775807) :
    Calls Tryd.prog 12 #[.pointer (some ⟨p, 0, none⟩), .agg #[.int .i64 k, .int .i64 n, .string s], .int .i64 i] w fun e w' => e = .returned (.tuple #[.agg (vc (getH (absA As) (k, n, s) i).1).toArray, .int .i64 (getH (absA As) (k, n, s) i).2]) ∧ Below w.heap.size w w' := by
  have b0 := Box3.new w k n s 37
  have b1 := Box3.new (w.alloc (.cells #[.int .i64 k, .int .i64 n, .string s] 37)) 0 0 e0 37
  rw [World.size_alloc] at b1
  replace b0 := b0.alloc (.cells #[.int .i64 0, .int .i64 0, .string e0] 37)
  have B0 : Below w.heap.size w ((w.alloc (.cells #[.int .i64 k, .int .i64 n, .string s] 37)).alloc (.cells #[.int .i64 0, .int .i64 0, .string e0] 37)) := ((Below.refl _ w).alloc (Nat.le_refl _) _).alloc (by simp) _
  have z0 : ((w.alloc (.cells #[.int .i64 k, .int .i64 n, .string s] 37)).alloc (.cells #[.int .i64 0, .int .i64 0, .string e0] 37)).heap.size = w.heap.size + 2 := by simp
  have HG : Hid (getH (absA As) (k, n, s) i = if (placeA As (k, n, s) i).2 = 0 then ((placeA As (k, n, s) i).1.els.getD i.toNat zv, 0) else (zv, (placeA As (k, n, s) i).2)) := by
    show getH (absA As) (k, n, s) i = _
    unfold getH
    rw [place_abs]
  generalize getH (absA As) (k, n, s) i = R at HG ⊢
  have HP : Hid ((placeA As (k, n, s) i).2 = 0 → ∃ (j : Nat) (m : Nat), n = (j : Int) + 1 ∧ i = (m : Int) ∧ mayS (k, n, s) 4 As.length = true ∧ ∃ (hj : j < As.length), (placeA As (k, n, s) i).1 = As[j] ∧ m < As[j].els.length) := place_ok (v := (k, n, s))
  go_enter Tryd.func12, Tryd.ntmps12
  go_wp2_with fail
  generalize (w.alloc (.cells #[.int .i64 k, .int .i64 n, .string s] 37)).alloc (.cells #[.int .i64 0, .int .i64 0, .string e0] 37) = X at b0 b1 B0 z0 ⊢
  replace h := h.next B0
  obtain ⟨⟨⟨x0, f0⟩, ⟨x1, f1⟩⟩, x2, f2⟩ := id b0
  have hc := place_any h k n s i hs
  generalize placeA As (k, n, s) i = T at hc HG HP
  obtain ⟨⟨kk, el, qq, gg, oo⟩, t⟩ := T
  unfold arV at hc
  simp only at hc HG HP
  go_wp2_with fail
  refine hc.mono ?_
  rintro e w1 ⟨rfl, hb⟩
  replace h := (h.next hb).next ((Below.refl _ w1).alloc (Nat.le_refl _) (.cells #[.int .i64 kk, .slice qq el.length el.length] 82))
  replace b1 := (b1.below hb (by omega)).alloc (.cells #[.int .i64 kk, .slice qq el.length el.length] 82)
  have b2 := Box2.new w1 (.int .i64 kk) (.slice qq el.length el.length) 82
  have z1 : w.heap.size + 2 ≤ w1.heap.size := by have := hb.size; omega
  replace B0 := (below2 B0 hb).alloc (by omega) (.cells #[.int .i64 kk, .slice qq el.length el.length] 82)
  have z2 : (w1.alloc (.cells #[.int .i64 kk, .slice qq el.length el.length] 82)).heap.size = w1.heap.size + 1 := by simp
  clear hc b0 x0 x1 x2 f0 f1 f2 z0 hb
  generalize hY : w1.alloc (.cells #[.int .i64 kk, .slice qq el.length el.length] 82) = Y at h b1 b2 B0 z2
  obtain ⟨⟨⟨y0, g0⟩, ⟨y1, g1⟩⟩, y2, g2⟩ := id b1
  obtain ⟨⟨u0, -⟩, ⟨u1, -⟩⟩ := id b2
  by_cases ht : t = 0
  · subst ht
    rw [if_pos rfl] at HG
    obtain ⟨j, m, -, hi, -, hj, ha, hm⟩ := HP.out rfl
    have hmem : As[j] ∈ As := List.getElem_mem hj
    have hok := (h.ok _ hmem).2
    have hel := h.len.2 _ hmem
    obtain ⟨e1, e2, e3, -⟩ := h.els _ hmem (fun q => by rw [q] at hm; simp at hm)
    rw [← ha] at hm hok hel e1 e2 e3
    simp only at hm hok hel e1 e2 e3
    subst e1
    subst hi
    have hv := may_small (hok el[m] (List.getElem_mem hm))
    have e4 := vcs_get e3 m hm
    rw [Int.toNat_natCast, List.getD_eq_getElem?_getD, List.getElem?_eq_getElem hm, Option.getD_some] at HG
    generalize el[m] = v at hv e4 HG
    obtain ⟨vk, vn, vs⟩ := v
    simp only at hv
    have a0 : Y.cell? ⟨gg, oo + m * 3, none⟩ = some (.int .i64 vk) := e4 0 _ rfl
    have a1 : Y.cell? ⟨gg, oo + m * 3 + 1, none⟩ = some (.int .i64 vn) := e4 1 _ rfl
    have a2 : Y.cell? ⟨gg, oo + m * 3 + 2, none⟩ = some (.string vs) := e4 2 _ rfl
    have HR : Hid (Value.tuple #[.agg (vc R.1).toArray, .int .i64 R.2] = .tuple #[.agg #[.int .i64 vk, .int .i64 vn, .string vs], .int .i64 0]) := by rw [HG.out]; rfl
    have i0 : (0 : Int) ≤ (m : Int) := by omega
    have i1 : (m : Int) < (el.length : Int) := by omega
    clear HG HP ha hj hmem hok e2 e3 e4 hm h
    generalize el.length = ll at *
    go_wp2_with fail
    refine (copied_any vk vn vs _ (by omega)).mono ?_
    rintro e w2 ⟨rfl, hb⟩
    replace b1 := b1.below hb (by omega)
    replace B0 := below2 B0 hb
    clear y0 y1 y2 g0 g1 g2 a0 a1 a2 u0 u1
    obtain ⟨⟨⟨y0, g0⟩, ⟨y1, g1⟩⟩, y2, g2⟩ := id b1
    go_wp2
    have mm := b1.put vk vn vs
    have B1 := below_put3 B0 (Nat.le_succ _) vk vn vs
    change bodyPost Tryd.prog _ _ _ _ (put3 w2 (w.heap.size + 1) _ _ _)
    generalize put3 w2 (w.heap.size + 1) vk vn vs = Z at mm B1 ⊢
    obtain ⟨⟨⟨p0, -⟩, ⟨p1, -⟩⟩, p2, -⟩ := mm
    exact bodyPost_ret (v := .tuple #[.agg #[.int .i64 vk, .int .i64 vn, .string vs], .int .i64 0]) (by simp [results, Tryd.results12, go_sem, p0, p1, p2]) rfl ⟨by rw [HR.out], B1⟩
  · rw [if_neg ht] at HG
    have HR : Hid (Value.tuple #[.agg (vc R.1).toArray, .int .i64 R.2] = .tuple #[.agg #[.int .i64 0, .int .i64 0, .string e0], .int .i64 t]) := by rw [HG.out]; rfl
    clear HG HP h
    have ht' : (t != 0) = true := by simpa using ht
    go_wp2
    have mm := b1.put 0 0 e0
    have B1 := below_put3 B0 (Nat.le_succ _) 0 0 e0
    change bodyPost Tryd.prog _ _ _ _ (put3 Y (w.heap.size + 1) _ _ _)
    generalize put3 Y (w.heap.size + 1) 0 0 e0 = Z at mm B1 ⊢
    obtain ⟨⟨⟨p0, -⟩, ⟨p1, -⟩⟩, p2, -⟩ := mm
    exact bodyPost_ret (v := .tuple #[.agg #[.int .i64 0, .int .i64 0, .string e0], .int .i64 t]) (by simp [results, Tryd.results12, go_sem, p0, p1, p2]) rfl ⟨by rw [HR.out], B1⟩

theorem get_any {w : World} {p lim : Nat} {A : Hp} {F : Nat → Prop} (h : HeapOf w p lim A F) (v : V) (i : Int) (hs : v.2.2.size ≤ 9223372036854775807) :
    Calls Tryd.prog 12 #[.pointer (some ⟨p, 0, none⟩), .agg #[.int .i64 v.1, .int .i64 v.2.1, .string v.2.2], .int .i64 i] w fun e w' => e = .returned (.tuple #[.agg (vc (getH A v i).1).toArray, .int .i64 (getH A v i).2]) ∧ Below w.heap.size w w' := by
  obtain ⟨As, rq, rn, rg, ro, av, rfl, h⟩ := h
  exact get_at h v.1 v.2.1 v.2.2 i hs
theorem lenH_any {w : World} {p lim : Nat} {A : Hp} {F : Nat → Prop} (h : HeapOf w p lim A F) (v : V) (hs : v.2.2.size ≤ 9223372036854775807) :
    Calls Tryd.prog 13 #[.pointer (some ⟨p, 0, none⟩), .agg #[.int .i64 v.1, .int .i64 v.2.1, .string v.2.2]] w fun e w' => e = .returned (.tuple #[.int .i64 ((findH A v).1.2.length : Int), .int .i64 (findH A v).2]) ∧ Below w.heap.size w w' := by
  obtain ⟨As, rq, rn, rg, ro, av, rfl, h⟩ := h
  rw [find_abs]
  exact len_any h v.1 v.2.1 v.2.2 hs
end Go.Proofs.YtdcioemjmmhbhaaDoor
