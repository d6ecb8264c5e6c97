import Derived.Test.YtdcioemjmmhbhaaDoorFindB
namespace Go.Proofs.YtdcioemjmmhbhaaDoor
open Go.RowKit

/-- What place answers. -/
def placeA (As : List Ar) (v : V) (i : Int) : Ar × Int := if (findA As v).2 = 0 ∧ (i < 0 ∨ ((findA As v).1.els.length : Int) ≤ i) then (za, 2) else findA As v

theorem find_els {w : World} {p lim : Nat} {As : List Ar} {rq : Option Addr} {rn rg ro : Nat} {av : Value} {F : Nat → Prop} (h : HeapAt w p lim As rq rn rg ro av F) (v : V) : (findA As v).1.els.length ≤ 100000 := by
  unfold findA
  split
  · exact Nat.zero_le _
  split
  · exact Nat.zero_le _
  · rw [List.getD_eq_getElem?_getD]
    cases hq : As[v.2.1.toNat - 1]? with
    | none => exact Nat.zero_le _
    | some a => exact h.len.2 a (List.mem_of_getElem? hq)

set_option maxRecDepth 100000 in
set_option maxHeartbeats 2000000 in
theorem place_any {w : World} {p lim : Nat} {As : List Ar} {rq : Option Addr} {rn rg ro : Nat} {av : Value} {F : Nat → Prop} (h : HeapAt w p lim As rq rn rg ro av F) (k n : Int) (s : ByteArray) (i : Int) (hs : s.size ≤ 9223372036854775807) :
    Calls Tryd.prog 32 #[.pointer (some ⟨p, 0, none⟩), .agg #[.int .i64 k, .int .i64 n, .string s], .int .i64 i] w fun e w' => e = .returned (.tuple #[arV (placeA As (k, n, s) i).1, .int .i64 (placeA As (k, n, s) i).2]) ∧ Below w.heap.size w w' := by
  have b0 := Box3.new w k n s 37
  have b1 := Box2.new (w.alloc (.cells #[.int .i64 k, .int .i64 n, .string s] 37)) (.int .i64 0) (.slice none 0 0) 82
  rw [World.size_alloc] at b1
  replace b0 := b0.alloc (.cells #[.int .i64 0, .slice none 0 0] 82)
  have B0 : Below w.heap.size w ((w.alloc (.cells #[.int .i64 k, .int .i64 n, .string s] 37)).alloc (.cells #[.int .i64 0, .slice none 0 0] 82)) := ((Below.refl _ w).alloc (Nat.le_refl _) _).alloc (by simp) _
  have z0 : ((w.alloc (.cells #[.int .i64 k, .int .i64 n, .string s] 37)).alloc (.cells #[.int .i64 0, .slice none 0 0] 82)).heap.size = w.heap.size + 2 := by simp
  have HF : Hid (placeA As (k, n, s) i = if (findA As (k, n, s)).2 = 0 ∧ (i < 0 ∨ ((findA As (k, n, s)).1.els.length : Int) ≤ i) then (za, 2) else findA As (k, n, s)) := rfl
  have hel := find_els h (k, n, s)
  generalize placeA As (k, n, s) i = R at HF ⊢
  go_enter Tryd.func32, Tryd.ntmps32
  go_wp2_with fail
  generalize (w.alloc (.cells #[.int .i64 k, .int .i64 n, .string s] 37)).alloc (.cells #[.int .i64 0, .slice none 0 0] 82) = X at b0 b1 B0 z0 ⊢
  replace h := h.next B0
  obtain ⟨⟨⟨x0, f0⟩, ⟨x1, f1⟩⟩, x2, f2⟩ := id b0
  have hc := find_any h k n s hs
  generalize findA As (k, n, s) = T at hc HF hel
  obtain ⟨⟨kk, el, qq, gg, oo⟩, t⟩ := T
  have HR : Hid (Value.tuple #[arV R.1, .int .i64 R.2] = if t = 0 ∧ (i < 0 ∨ (el.length : Int) ≤ i) then .tuple #[.agg #[.int .i64 0, .slice none 0 0], .int .i64 2] else .tuple #[.agg #[.int .i64 kk, .slice qq el.length el.length], .int .i64 t]) := by
    rw [HF.out]
    simp only
    split <;> rfl
  unfold arV at hc
  simp only at hc hel
  clear HF
  generalize el.length = ll at hc HR hel
  go_wp2_with fail
  refine hc.mono ?_
  rintro e w1 ⟨rfl, hb⟩
  replace b1 := (b1.below hb (by omega)).alloc (.cells #[.int .i64 kk, .slice qq ll ll] 82) (by have := hb.size; omega)
  have b2 := Box2.new w1 (.int .i64 kk) (.slice qq ll ll) 82
  have z1 : w.heap.size + 2 ≤ w1.heap.size := by have := hb.size; omega
  replace B0 := (below2 B0 hb).alloc (by omega) (.cells #[.int .i64 kk, .slice qq ll ll] 82)
  clear hc h b0 x0 x1 x2 f0 f1 f2 z0 hb
  generalize hY : w1.alloc (.cells #[.int .i64 kk, .slice qq ll ll] 82) = Y at b1 b2 B0
  obtain ⟨⟨y0, g0⟩, ⟨y1, g1⟩⟩ := id b1
  obtain ⟨⟨u0, -⟩, ⟨u1, -⟩⟩ := id b2
  have HB : Hid (∀ a b, Below w.heap.size w (put2 Y (w.heap.size + 1) a b) ∧ Box2 (put2 Y (w.heap.size + 1) a b) (w.heap.size + 1) a b) := fun a b => ⟨below_put2 B0 (Nat.le_succ _) _ _, b1.put a b⟩
  clear b1 b2 B0
  by_cases ht : t = 0
  · subst ht
    by_cases hi : i < 0
    · rw [if_pos ⟨rfl, .inl hi⟩] at HR
      go_wp2
      change bodyPost Tryd.prog _ _ _ _ (put2 Y (w.heap.size + 1) (.int .i64 0) (.slice none 0 0))
      obtain ⟨hB, hb⟩ := HB.out (.int .i64 0) (.slice none 0 0)
      generalize put2 Y (w.heap.size + 1) (.int .i64 0) (.slice none 0 0) = Z at hB hb ⊢
      obtain ⟨⟨p0, -⟩, p1, -⟩ := hb
      exact bodyPost_ret (v := .tuple #[.agg #[.int .i64 0, .slice none 0 0], .int .i64 2]) (by simp [results, Tryd.results32, go_sem, p0, p1]) rfl ⟨by rw [HR.out], hB⟩
    · by_cases hi2 : (ll : Int) ≤ i
      · rw [if_pos ⟨rfl, .inr hi2⟩] at HR
        go_wp2
        change bodyPost Tryd.prog _ _ _ _ (put2 Y (w.heap.size + 1) (.int .i64 0) (.slice none 0 0))
        obtain ⟨hB, hb⟩ := HB.out (.int .i64 0) (.slice none 0 0)
        generalize put2 Y (w.heap.size + 1) (.int .i64 0) (.slice none 0 0) = Z at hB hb ⊢
        obtain ⟨⟨p0, -⟩, p1, -⟩ := hb
        exact bodyPost_ret (v := .tuple #[.agg #[.int .i64 0, .slice none 0 0], .int .i64 2]) (by simp [results, Tryd.results32, go_sem, p0, p1]) rfl ⟨by rw [HR.out], hB⟩
      · rw [if_neg (by rintro ⟨_, q | q⟩; exact hi q; exact hi2 q)] at HR
        go_wp2
        change bodyPost Tryd.prog _ _ _ _ (put2 Y (w.heap.size + 1) (.int .i64 kk) (.slice qq ll ll))
        obtain ⟨hB, hb⟩ := HB.out (.int .i64 kk) (.slice qq ll ll)
        generalize put2 Y (w.heap.size + 1) (.int .i64 kk) (.slice qq ll ll) = Z at hB hb ⊢
        obtain ⟨⟨p0, -⟩, p1, -⟩ := hb
        exact bodyPost_ret (v := .tuple #[.agg #[.int .i64 kk, .slice qq ll ll], .int .i64 0]) (by simp [results, Tryd.results32, go_sem, p0, p1]) rfl ⟨by rw [HR.out], hB⟩
  · rw [if_neg (fun q => ht q.1)] at HR
    have ht' : (t == 0) = false := by simpa using ht
    go_wp2
    change bodyPost Tryd.prog _ _ _ _ (put2 Y (w.heap.size + 1) (.int .i64 kk) (.slice qq ll ll))
    obtain ⟨hB, hb⟩ := HB.out (.int .i64 kk) (.slice qq ll ll)
    generalize put2 Y (w.heap.size + 1) (.int .i64 kk) (.slice qq ll ll) = Z at hB hb ⊢
    obtain ⟨⟨p0, -⟩, p1, -⟩ := hb
    exact bodyPost_ret (v := .tuple #[.agg #[.int .i64 kk, .slice qq ll ll], .int .i64 t]) (by simp [results, Tryd.results32, go_sem, p0, p1]) rfl ⟨by rw [HR.out], hB⟩

set_option maxRecDepth 100000 in
set_option maxHeartbeats 2000000 in
theorem len_any {w : World} {p lim : Nat} {As : List Ar} {rq : Option Addr} {rn rg ro : Nat} {av : Value} {F : Nat → Prop} (h : HeapAt w p lim As rq rn rg ro av F) (k n : Int) (s : ByteArray) (hs : s.size ≤ 9223372036854775807) :
    Calls Tryd.prog 13 #[.pointer (some ⟨p, 0, none⟩), .agg #[.int .i64 k, .int .i64 n, .string s]] w fun e w' => e = .returned (.tuple #[.int .i64 ((findA As (k, n, s)).1.els.length : Int), .int .i64 (findA As (k, n, s)).2]) ∧ Below w.heap.size w w' := by
  have b0 := Box3.new w k n s 37
  have B0 : Below w.heap.size w (w.alloc (.cells #[.int .i64 k, .int .i64 n, .string s] 37)) := (Below.refl _ w).alloc (Nat.le_refl _) _
  have hel := find_els h (k, n, s)
  have hc := fun W (B : Below w.heap.size w W) => find_any (h.next B) k n s hs
  generalize findA As (k, n, s) = T at hc hel ⊢
  obtain ⟨⟨kk, el, qq, gg, oo⟩, t⟩ := T
  unfold arV at hc
  simp only at hc hel ⊢
  generalize el.length = ll at hc hel ⊢
  go_enter Tryd.func13, Tryd.ntmps13
  go_wp2_with fail
  replace hc := hc _ B0
  obtain ⟨⟨⟨x0, -⟩, ⟨x1, -⟩⟩, x2, -⟩ := b0
  go_wp2_with fail
  refine hc.mono ?_
  rintro e w1 ⟨rfl, hb⟩
  obtain ⟨⟨u0, -⟩, ⟨u1, -⟩⟩ := Box2.new w1 (.int .i64 kk) (.slice qq ll ll) 82
  have B1 := below2 B0 hb
  replace B1 := B1.alloc B1.size (.cells #[.int .i64 kk, .slice qq ll ll] 82)
  clear hc h x0 x1 x2 hb B0
  go_wp2
  exact bodyPost_ret (v := .tuple #[.int .i64 (ll : Int), .int .i64 t]) (by simp [results, Tryd.results13, go_sem]) rfl ⟨rfl, B1⟩
end Go.Proofs.YtdcioemjmmhbhaaDoor
