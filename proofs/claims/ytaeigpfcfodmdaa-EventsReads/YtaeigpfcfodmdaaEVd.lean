import Derived.Test.YtaeigpfcfodmdaaEVc
namespace Go.Proofs.Ytaeigpfcfodmdaa
open Go.RowKit

/-! What EventsReads needs besides. -/
abbrev Yd := Int × Bool × Int × Int × ByteArray
def yc (y : Yd) : List Value := [.int .i64 y.1, .bool y.2.1, .int .i64 y.2.2.1, .int .i64 y.2.2.2.1, .string y.2.2.2.2]
abbrev spT : ByteArray := ⟨#[115, 112, 97, 114, 101]⟩
theorem infoHk : (Try.prog.info? 28).map (fun i => (i.zero, i.size, i.bytes)) = some (some (.agg #[.int .i64 0, .int .i64 0, .string e0]), 3, 32) := by kernel_rfl
theorem sz_hk : ∀ w : World, (sizeOf 28).run Try.prog w = .ok 3 w := fun w => by kernel_rfl
theorem cut_run {t e : TypeId} {s : Nat} (ht : Try.prog.underlying t = some (.slice e)) (hz : ∀ w : World, (sizeOf e).run Try.prog w = .ok s w) (a : Addr) (n cap k : Nat) (hk : k ≤ cap) : ∀ w : World, (Instr.slice t (.slice (some a) n cap) none (some (.int .i64 (k : Int))) none).run Try.prog w = .ok (.slice (some a) k cap) w := fun w => by
  simp [go_sem, Instr.slice, run_underlying ht, hk, hz]
theorem hc_one (L : List Hk) : ∀ u ∈ L.flatMap hc, u.oneCell' = true := fun u hu => by
  obtain ⟨x, -, hx⟩ := List.mem_flatMap.1 hu
  simp only [hc, List.mem_cons, List.not_mem_nil, or_false] at hx
  rcases hx with rfl | rfl | rfl <;> rfl
theorem hc_len (L : List Hk) : (L.flatMap hc).length = L.length * 3 := flat_lenF hc 3 (fun _ => rfl) L
/-- What lies elsewhere, appended, whatever its size. -/
theorem app_srcW {w : World} {base G n cap : Nat} {xs : List Value} (hown : w.ownsRow base 28 3 (.slice (some ⟨G, 0, none⟩) n cap) n xs) (q : Option Addr) (m c : Nat) (ys : List Value) (hl : ys.length = m * 3) (hq : q = none → m = 0) (hr : 0 < m → ∃ g o, q = some ⟨g, o, none⟩ ∧ w.rangeAt g o ys) (h1 : ∀ u ∈ ys, u.oneCell' = true) (hb : (n + m) * 32 ≤ 140737488355328) (hbase : base ≤ w.heap.size) :
    ∃ G' cap' w', (Builtin.append_ #[22, 22] 22 #[.slice (some ⟨G, 0, none⟩) n cap, .slice q m c]).run Try.prog w = .ok (.slice (some ⟨G', 0, none⟩) (n + m) cap') w' ∧ w'.ownsRow base 28 3 (.slice (some ⟨G', 0, none⟩) (n + m) cap') (n + m) (xs ++ ys) ∧ w.grownBy w' (some G) := by
  obtain ⟨i, hi, hz0, hz1, hz2⟩ := info_parts infoHk
  cases q with
  | none =>
    obtain rfl := hq rfl
    obtain rfl : ys = [] := List.length_eq_zero_iff.1 (by rw [hl, Nat.zero_mul])
    refine ⟨G, cap, w, ?_, by rw [List.append_nil]; exact hown, World.grownBy.refl w _⟩
    rcases hown.2 with ⟨q, _⟩ | ⟨g, cap', cur, hv, _, _, hnc, _⟩
    · cases q
    · cases hv
      simp [Builtin.append_, run_underlying Try.underlying22, sizeOf, typeInfo, hi, Builtin.lenOf, Builtin.firstCells, hnc, storeCells]
  | some a =>
    have hnews : ∀ j u, ys[j]? = some u → w.cell? (a.add j) = some u := fun j u hu => by
      rcases Nat.eq_zero_or_pos m with rfl | hm
      · obtain rfl : ys = [] := List.length_eq_zero_iff.1 (by rw [hl, Nat.zero_mul])
        cases hu
      · obtain ⟨g, o, hq, hg⟩ := hr hm
        cases hq
        rw [Addr.add_mid]
        exact hg j u hu
    obtain ⟨v', w', hr, h2, h3, h4⟩ := run_append_own (P := Try.prog) w base 22 22 28 i _ 3 32 Try.underlying22 hi hz0 hz1 hz2 rfl (by decide) _ n xs hown a m c ys hl hnews h1 (by unfold maxLen; omega) hb hbase
    rcases h2.2 with ⟨q, -⟩ | ⟨G', cap', cur, rfl, -⟩
    · have := (h4.1 q).1
      cases this
    · exact ⟨G', cap', w', hr, h2, h3⟩
theorem row_nil {w : World} {B : Nat} {q : Option Addr} {n : Nat} {xs : List Value} (h : Row w B q n xs) : q = none → n = 0 := fun e => by
  rcases Nat.eq_zero_or_pos n with h0 | h0
  · exact h0
  · obtain ⟨_, _, hq, _⟩ := h h0
    rw [hq] at e
    cases e
theorem own_cut {w : World} {b : Nat} {e : TypeId} {sz g n cap : Nat} {xs ys : List Value} (h : w.ownsRow b e sz (.slice (some ⟨g, 0, none⟩) (n + 1) cap) (n + 1) (xs ++ ys)) (hx : xs.length = n * sz) : w.ownsRow b e sz (.slice (some ⟨g, 0, none⟩) n cap) n xs := by
  refine ⟨hx, ?_⟩
  rcases h.2 with ⟨q, -⟩ | ⟨g', cap', cur, hv, h1, h2, h3, h4, h5, h6⟩
  · cases q
  · cases hv
    refine .inr ⟨g, cap, cur, rfl, h1, h2, by omega, h4, h5, ?_⟩
    have e1 : cur.toList.take (n * sz) = (cur.toList.take ((n + 1) * sz)).take (n * sz) := by rw [List.take_take, Nat.min_eq_left (Nat.mul_le_mul_right _ (Nat.le_succ n))]
    rw [e1, h6, ← hx, List.take_left]
/-- What is told, as a value. -/
theorem rdS_form (L : List Hk) (hk : Int) (has : Bool) (k n : Int) (s : ByteArray) : ∃ a b c d e f er, rdS L hk has k n s = .tuple #[.agg #[.int .i64 a, .int .i64 b, .string c, .int .i64 d, .int .i64 e, .string f], .int .i64 er] := by
  unfold rdS
  cases rowS L hk with
  | none => exact ⟨_, _, _, _, _, _, _, rfl⟩
  | some x =>
    simp only
    split
    · exact ⟨_, _, _, _, _, _, _, rfl⟩
    · exact ⟨_, _, _, _, _, _, _, rfl⟩
theorem neSameE (a b : Int) (c : ByteArray) (d e : Int) (f : ByteArray) : ∀ w : World, (binOp BinOp.neq 33 (.agg #[.int .i64 a, .int .i64 b, .string c, .int .i64 d, .int .i64 e, .string f]) (.agg #[.int .i64 a, .int .i64 b, .string c, .int .i64 d, .int .i64 e, .string f])).run Try.prog w = .ok (.bool false) w := by
  intro w
  simp [go_sem]
theorem neSameH (a b : Int) (c : ByteArray) : ∀ w : World, (binOp BinOp.neq 28 (.agg #[.int .i64 a, .int .i64 b, .string c]) (.agg #[.int .i64 a, .int .i64 b, .string c])).run Try.prog w = .ok (.bool false) w := by
  intro w
  simp [go_sem]
theorem xor_one (a : Int) : ∃ b, ∀ w : World, (binOp BinOp.xor 3 (.int .i64 a) (.int .i64 1)).run Try.prog w = .ok (.int .i64 b) w := ⟨_, fun w => by simp [go_sem]; rfl⟩
/-- A row of yields at a place. -/
theorem yd_at {w : World} {B : Nat} {q : Option Addr} {L : List Yd} (h : Row w B q L.length (L.flatMap yc)) (j : Nat) (hj : j < L.length) : ∃ g o, q = some ⟨g, o, none⟩ ∧ g < B ∧ w.rangeAt g (o + j * 5) (yc (L[j])) := by
  obtain ⟨g, o, hq, hg, hr⟩ := h (Nat.lt_of_le_of_lt (Nat.zero_le _) hj)
  refine ⟨g, o, hq, hg, fun t v hv => ?_⟩
  have ht : t < 5 := (List.getElem?_eq_some_iff.1 hv).1
  have e1 := flat_at yc 5 (fun _ => rfl) L j t hj ht
  have := hr (j * 5 + t) v (e1.trans hv)
  rw [← Nat.add_assoc] at this
  exact this
/-- The law's world between its calls. -/
structure Lw (w W : World) (tq yq : Option Addr) (n tc m yc' : Nat) (G cp : Nat) (O : List Hk) : Prop where
  b : Below w.heap.size w W
  x : Full W w.heap.size 25 [.slice tq n tc, .slice yq m yc']
  own : W.ownsRow (w.heap.size + 1) 28 3 (.slice (some ⟨G, 0, none⟩) (n + 1) cp) (n + 1) (O.flatMap hc ++ [.int .i64 0, .int .i64 0, .string spT])
  len : O.length = n
  nm : ∀ x ∈ O, x.2.2.size ≤ 281474976710656
theorem Lw.next {w W W' : World} {tq yq : Option Addr} {n tc m yc' G cp : Nat} {O : List Hk} (h : Lw w W tq yq n tc m yc' G cp O) (k : Below W.heap.size W W') : Lw w W' tq yq n tc m yc' G cp O := ⟨below2 h.b k, h.x.next k, own_next h.own k, h.len, h.nm⟩
theorem Lw.row {w W : World} {tq yq : Option Addr} {n tc m yc' G cp : Nat} {O : List Hk} (h : Lw w W tq yq n tc m yc' G cp O) : Row W W.heap.size (some ⟨G, 0, none⟩) O.length (O.flatMap hc) := by
  have := own_cut h.own (by rw [hc_len, h.len])
  rw [← h.len] at this
  exact row_of_own this
theorem Lw.le {w W : World} {tq yq : Option Addr} {n tc m yc' G cp : Nat} {O : List Hk} (h : Lw w W tq yq n tc m yc' G cp O) : n + 1 ≤ cp := by
  rcases h.own.2 with ⟨q, _⟩ | ⟨g, cap', cur, hv, _, _, hnc, _⟩
  · cases q
  · cases hv; exact hnc
end Go.Proofs.Ytaeigpfcfodmdaa
