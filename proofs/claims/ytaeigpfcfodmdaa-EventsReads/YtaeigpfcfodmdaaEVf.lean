import Derived.Test.YtaeigpfcfodmdaaEVd
namespace Go.Proofs.Ytaeigpfcfodmdaa
open Go.RowKit

/-! The law's world: what lies in it, and its list written into. -/
theorem own_put {w : World} {b : Nat} {e : TypeId} {sz g n cap : Nat} {xs : List Value} (h : w.ownsRow b e sz (.slice (some ⟨g, 0, none⟩) n cap) n xs) (k : Nat) (v : Value) : (w.setCell ⟨g, k, none⟩ v).ownsRow b e sz (.slice (some ⟨g, 0, none⟩) n cap) n (xs.set k v) := by
  refine ⟨by rw [List.length_set]; exact h.1, ?_⟩
  rcases h.2 with ⟨q, _⟩ | ⟨g', cap', cur, hv, h1, h2, h3, h4, h5, h6⟩
  · cases q
  · cases hv
    refine .inr ⟨g, cap, cur.set! k v, rfl, h1, set_blk h2 v, h3, h4, by simp [h5], ?_⟩
    rw [Array.set!_eq_setIfInBounds, Array.toList_setIfInBounds, List.take_set, h6]
abbrev hk0 : Hk := (0, 0, e0)
theorem hc_set (b : Int) (M : List Value) : ∀ (O : List Hk) (i : Nat), i < O.length → (O.flatMap hc ++ M).set (i * 3 + 1) (.int .i64 b) = (O.set i ((O.getD i hk0).1, b, (O.getD i hk0).2.2)).flatMap hc ++ M
  | [], i, h => absurd h (Nat.not_lt_zero i)
  | x :: O, 0, _ => rfl
  | x :: O, i + 1, h => by
    have ih := hc_set b M O i (Nat.lt_of_succ_lt_succ h)
    have e : (i + 1) * 3 + 1 = i * 3 + 1 + 1 + 1 + 1 := by omega
    rw [e]
    show ((hc x ++ O.flatMap hc) ++ M).set _ _ = (hc x ++ (O.set i _).flatMap hc) ++ M
    rw [List.append_assoc, List.append_assoc]
    show Value.int .i64 x.1 :: Value.int .i64 x.2.1 :: Value.string x.2.2 :: (O.flatMap hc ++ M).set (i * 3 + 1) (.int .i64 b) = _
    rw [ih]
    rfl
section
variable {w W : World} {tq yq : Option Addr} {n tc m ycp G cp : Nat} {O : List Hk}
theorem Lw.at (h : Lw w W tq yq n tc m ycp G cp O) (i : Nat) (hi : i < n) : W.cell? ⟨G, i * 3, none⟩ = some (.int .i64 (O.getD i hk0).1) ∧ W.cell? ⟨G, i * 3 + 1, none⟩ = some (.int .i64 (O.getD i hk0).2.1) ∧ W.cell? ⟨G, i * 3 + 2, none⟩ = some (.string (O.getD i hk0).2.2) ∧ W.frozen? ⟨G, i * 3 + 1, none⟩ = false := by
  obtain ⟨g, o, e, -, hr⟩ := hk_at h.row i (by rw [h.len]; exact hi)
  cases e
  rw [Nat.zero_add] at hr
  exact ⟨hr 0 _ rfl, hr 1 _ rfl, hr 2 _ rfl, (own_blk h.own G rfl).unfrozen _⟩
theorem Lw.mark (h : Lw w W tq yq n tc m ycp G cp O) : W.cell? ⟨G, n * 3 + 2, none⟩ = some (.string spT) := by
  obtain ⟨g, o, e, -, hr⟩ := row_of_own h.own (Nat.succ_pos n)
  cases e
  have := hr (n * 3 + 2) (.string spT) (by
    rw [List.getElem?_append_right (by rw [hc_len, h.len]; omega), hc_len, h.len, show n * 3 + 2 - n * 3 = 2 by omega]
    rfl)
  rw [Nat.zero_add] at this
  exact this
theorem Lw.put (h : Lw w W tq yq n tc m ycp G cp O) (i : Nat) (hi : i < n) (b : Int) : Lw w (W.setCell ⟨G, i * 3 + 1, none⟩ (.int .i64 b)) tq yq n tc m ycp G cp (O.set i ((O.getD i hk0).1, b, (O.getD i hk0).2.2)) := by
  have hg : w.heap.size + 1 ≤ G := (h.own.lt _ rfl).1
  refine ⟨h.b.setCell (p := ⟨G, i * 3 + 1, none⟩) (by show w.heap.size ≤ G; omega) _, h.x.other1 (by show w.heap.size ≠ G; omega), ?_, by rw [List.length_set]; exact h.len, fun x hx => ?_⟩
  · have := own_put h.own (i * 3 + 1) (.int .i64 b)
    rw [hc_set b _ O i (by rw [h.len]; exact hi)] at this
    exact this
  · rcases List.mem_or_eq_of_mem_set hx with hx | rfl
    · exact h.nm x hx
    · have hi' : i < O.length := by rw [h.len]; exact hi
      have e : O.getD i hk0 = O[i] := by rw [List.getD_eq_getElem?_getD, List.getElem?_eq_getElem hi']; rfl
      rw [e]
      exact h.nm (O[i]) (List.getElem_mem hi')
/-- The cells that a reading's region loads. -/
theorem Lw.sv {gy oy i : Nat} {yk yv yn : Int} {yh : Bool} {ys : ByteArray} (h : Lw w W tq (some ⟨gy, oy, none⟩) n tc m ycp G cp O) (hg : gy < w.heap.size) (hr : w.rangeAt gy (oy + i * 5) (yc (yk, yh, yv, yn, ys))) : ∀ w' : World, Below W.heap.size W w' → w'.cell? ⟨w.heap.size, 0, none⟩ = some (.slice tq n tc) ∧ w'.cell? ⟨w.heap.size, 1, none⟩ = some (.slice (some ⟨gy, oy, none⟩) m ycp) ∧ w'.cell? ⟨gy, oy + i * 5, none⟩ = some (.int .i64 yk) ∧ w'.cell? ⟨gy, oy + i * 5 + 1, none⟩ = some (.bool yh) ∧ w'.cell? ⟨gy, oy + i * 5 + 2, none⟩ = some (.int .i64 yv) ∧ w'.cell? ⟨gy, oy + i * 5 + 3, none⟩ = some (.int .i64 yn) ∧ w'.cell? ⟨gy, oy + i * 5 + 4, none⟩ = some (.string ys) ∧ Below W.heap.size W w' := fun w' hb => by
  have f1 := h.x.next hb
  have r := range_same hr ((below2 h.b hb).block gy hg)
  exact ⟨(f1.cell 0 _ rfl).1, (f1.cell 1 _ rfl).1, r 0 _ rfl, r 1 _ rfl, r 2 _ rfl, r 3 _ rfl, r 4 _ rfl, hb⟩
end
/-- A slice that is a list's front is read. -/
theorem read_own {w : World} {b n G cp c : Nat} {O : List Hk} (h : w.ownsRow b 28 3 (.slice (some ⟨G, 0, none⟩) n c) n (O.flatMap hc)) (hl : O.length = n) (hn : n ≤ 4398046510976) (hnm : ∀ x ∈ O, x.2.2.size ≤ 281474976710656) {yk yv yn : Int} {yh : Bool} {ys : ByteArray} (h64 : -9223372036854775808 ≤ yk) (hs : ys.size ≤ 281474976710656) :
    Calls Try.prog 4 #[.slice (some ⟨G, 0, none⟩) n cp, .agg #[.int .i64 yk, .bool yh, .int .i64 yv, .int .i64 yn, .string ys]] w fun z w' => z = .returned (rdS O yk yh yv yn ys) ∧ Below w.heap.size w w' := by
  subst hl
  exact read_any (row_of_own h) (Nat.le_refl _) (by omega) hnm cp yk h64 yh yv yn ys hs
theorem rread_row {w : World} {B n c : Nat} {q : Option Addr} {O : List Hk} (h : Row w B q n (O.flatMap hc)) (hB : B ≤ w.heap.size) (hl : O.length = n) (hn : n ≤ 4398046510976) {yk yv yn : Int} {yh : Bool} {ys : ByteArray} (h64 : -9223372036854775808 ≤ yk) (hs : ys.size ≤ 281474976710656) :
    Calls Try.prog 5 #[.slice q n c, .agg #[.int .i64 yk, .bool yh, .int .i64 yv, .int .i64 yn, .string ys]] w fun z w' => z = .returned (rdS O yk yh yv yn ys) ∧ Below w.heap.size w w' := by
  subst hl
  exact rread_any h hB (by omega) c yk h64 yh yv yn ys (by omega)
end Go.Proofs.Ytaeigpfcfodmdaa
