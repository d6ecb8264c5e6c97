import Derived.Lib.ParseIntBTie
import Derived.Test.YtekgnogjfggnmaaGreatDoorN37
namespace Go.Proofs.YtekgnogjfggnmaaGreatDoor
open Go.RowKit
theorem fits_name24 {w : Int} {t : ByteArray} (h : fitsS w t nameS = true) : t.data.toList.length ≤ 24 := by
 rw [← Lib.size_eq]
 unfold fitsS at h
 split at h
 ·omega
 ·exact name_len (Bool.and_eq_true_iff.1 h).2
theorem fits_type24 {w : Int} {t : ByteArray} (h : fitsS w t typeS = true) : t.data.toList.length ≤ 24 := by
 rw [← Lib.size_eq]
 unfold fitsS at h
 split at h
 ·omega
 ·have := typ_len 4 t (Bool.and_eq_true_iff.1 h).2
  omega
theorem len_if {on : Prop} [Decidable on] {a b : List UInt8} {n : Nat} (ha : a.length ≤ n) (hb : b.length ≤ n) : (if on then a else b).length ≤ n := by split <;> assumption
theorem wds_small : ∀ k : Fin 31, (wds.getD k.val ByteArray.empty).data.toList.length ≤ 100 := by decide +kernel
theorem sg_small : ∀ k : Fin 16, (sgT.getD k.val ByteArray.empty).data.toList.length ≤ 100 := by decide +kernel
theorem line_short {L : List Nd} (ht : treeS nameS typeS L = true) (hr : Rng L) (hp : RngP L) {n : Nat} (hn : n < L.length) : (lnS (nd L n)).length ≤ 3000 := by
 have hf := (tree_parts ht).2 n hn
 unfold fit at hf
 simp only [Bool.and_eq_true] at hf
 obtain ⟨⟨h1, h2⟩, _⟩ := hf
 obtain ⟨b1, b2, b3, b4⟩ := shp_bounds _ h1
 obtain ⟨k0, k1⟩ := shp_range _ h1
 unfold fieldsS at h2
 simp only [Bool.and_eq_true, decide_eq_true_eq] at h2
 obtain ⟨⟨⟨⟨⟨⟨⟨⟨a1, a2⟩, a3⟩, a4⟩, a5⟩, a6⟩, a7⟩, a8⟩, a9⟩ := h2
 have hs := Lib.size_eq (nd L n).text
 have c1 := fits_name24 a2
 have c2 := fits_name24 a3
 have c3 := fits_type24 a4
 have i1 := hr n hn
 have p1 := hp n hn
 have l1 := aw_len (nd L n).label.data.toList
 have l2 := aw_len (nd L n).name.data.toList
 have l3 := aw_len (nd L n).typ.data.toList
 have l4 := Lx.pcs_len (nd L n).text.data.toList
 have l5 := aw_len (Lx.qt (nd L n).text.data.toList)
 have l6 := Lib.itoa_length_le (nd L n).int (by omega) (by omega)
 have l7 := Lib.itoa_length_le (nd L n).pos (by omega) (by omega)
 have l8 := wds_small ⟨(nd L n).kind.toNat, by omega⟩
 have l9 := sg_small ⟨(nd L n).op.toNat, by omega⟩
 have l10 := aw_len (sgT.getD (nd L n).op.toNat ByteArray.empty).data.toList
 have q : (Lx.qt (nd L n).text.data.toList).length ≤ 2 + 4 * (nd L n).text.data.toList.length := by
  unfold Lx.qt
  rw [List.length_cons, List.length_append, List.length_singleton]
  omega
 simp only at l8 l9
 have e1 : (pLb (shp (nd L n).kind).1 (nd L n)).length ≤ 50 := len_if (by simp) (by omega)
 have e2 : (pIt (shp (nd L n).kind).1 (nd L n)).length ≤ 50 := len_if (by rw [List.length_cons]; omega) (by simp)
 have e3 : (pNm (shp (nd L n).kind).1 (nd L n)).length ≤ 50 := len_if (by simp) (by omega)
 have e4 : (pTy (shp (nd L n).kind).1 (nd L n)).length ≤ 50 := len_if (by simp) (by omega)
 have e5 : (pOp (shp (nd L n).kind).1 (nd L n)).length ≤ 150 := len_if (by omega) (by simp)
 have e6 : (pTx (shp (nd L n).kind).1 (nd L n)).length ≤ 1000 := len_if (by omega) (by simp)
 unfold lnS lnB wordS
 simp only [List.length_append]
 show _ + 2 + _ + 1 ≤ _
 omega
theorem dmp_short {L : List Nd} (ht : treeS nameS typeS L = true) (hr : Rng L) (hp : RngP L) (hL : L.length < 500) : ∀ m, m ≤ L.length → (dmp L m).length ≤ m * 4000
 | 0, _ => Nat.le_refl _
 | m + 1, hm => by
  have ih := dmp_short ht hr hp hL m (by omega)
  have h1 := line_short ht hr hp (n := m) (by omega)
  have h2 := dep_le L m
  unfold dmp
  rw [List.length_append, List.length_append, blk_len]
  omega
theorem dump_tells (L : List Nd) (hr : Rng L) (hp : RngP L) :
 (treeS nameS typeS L = true ∧ (dmp L L.length).length ≤ 4194304 ∧ dumpS L = (dmp L L.length, 0)) ∨ (treeS nameS typeS L = true ∧ 500 ≤ L.length ∧ dumpS L = ([], 2)) ∨ (treeS nameS typeS L = false ∧ dumpS L = ([], 30)) := by
 cases ht : treeS nameS typeS L with
 | false => exact Or.inr (Or.inr ⟨rfl, dump_no ht⟩)
 | true =>
  by_cases h : (dmp L L.length).length ≤ 4194304
  ·exact Or.inl ⟨rfl, h, dump_ok ht h⟩
  ·refine Or.inr (Or.inl ⟨rfl, ?_, dump_long ht (Nat.le_refl _) (by omega)⟩)
   by_cases hl : L.length < 500
   ·have := dmp_short ht hr hp hl L.length (Nat.le_refl _)
    omega
   ·omega
theorem numS_le {w : List UInt8} {v : Int} (h : numS w = some v) : v ≤ 9223372036854775807 := by
 unfold numS at h
 split at h
 ·rename_i u hu
  have := Lib.parseIntB_bounds hu
  split at h
  ·cases h
   have := this.2
   omega
  ·cases h
 ·cases h
theorem rdN_le {on : Prop} [Decidable on] {r r' : List UInt8} {v : Int} (h : rdN on r = some (v, r')) : v ≤ 9223372036854775807 := by
 unfold rdN at h
 split at h
 ·obtain ⟨p, _, h2⟩ := Option.bind_eq_some_iff.1 h
  obtain ⟨u, h3, h4⟩ := Option.map_eq_some_iff.1 h2
  cases h4
  exact numS_le h3
 ·cases h
  omega
theorem words_le {told : List UInt8} {x : Nd} (h : wordsS told = some x) : x.int ≤ 9223372036854775807 := by
 unfold wordsS at h
 obtain ⟨k, _, h⟩ := Option.bind_eq_some_iff.1 h
 obtain ⟨⟨lb, r1⟩, _, h⟩ := Option.bind_eq_some_iff.1 h
 obtain ⟨⟨it, r2⟩, h2, h⟩ := Option.bind_eq_some_iff.1 h
 obtain ⟨⟨nm, r3⟩, _, h⟩ := Option.bind_eq_some_iff.1 h
 obtain ⟨⟨ty, r4⟩, _, h⟩ := Option.bind_eq_some_iff.1 h
 obtain ⟨⟨op, r5⟩, _, h⟩ := Option.bind_eq_some_iff.1 h
 obtain ⟨⟨tx, r6⟩, _, h⟩ := Option.bind_eq_some_iff.1 h
 simp only at h
 split at h
 ·cases h
  exact rdN_le h2
 ·cases h
theorem line_le {line : List UInt8} {x : Nd} {d : Nat} (h : lineS line = some (x, d)) : x.int ≤ 9223372036854775807 ∧ x.pos ≤ 9223372036854775807 := by
 unfold lineS at h
 split at h
 ·cases h
 ·obtain ⟨⟨a, b⟩, _, h⟩ := Option.bind_eq_some_iff.1 h
  obtain ⟨y, h2, h⟩ := Option.bind_eq_some_iff.1 h
  obtain ⟨v, h3, h⟩ := Option.map_eq_some_iff.1 h
  cases h
  exact ⟨(words_le h2 :), numS_le h3⟩
theorem rows_le : ∀ {f : Nat} {t : List UInt8} {ps : List (Nd × Nat)}, rowsS f t = some ps → ∀ p ∈ ps, p.1.int ≤ 9223372036854775807 ∧ p.1.pos ≤ 9223372036854775807
 | f, [], ps, h => by
  have : ps = [] := by cases f <;> exact (Option.some.inj h).symm
  subst this
  exact fun p hp => by simp at hp
 | 0, c :: t, ps, h => by cases h
 | f + 1, c :: t, ps, h => by
  unfold rowsS at h
  obtain ⟨⟨a, b⟩, h1, h⟩ := Option.bind_eq_some_iff.1 h
  obtain ⟨⟨x, d⟩, h2, h⟩ := Option.bind_eq_some_iff.1 h
  obtain ⟨qs, h3, rfl⟩ := Option.map_eq_some_iff.1 h
  simp only at h2 h3
  intro p hp
  rcases List.mem_cons.1 hp with rfl | hp
  ·exact line_le h2
  ·exact rows_le h3 p hp
theorem read_rng {t : List UInt8} {L : List Nd} (h : readS t = some L) : Rng L ∧ RngP L := by
 unfold readS at h
 split at h
 ·cases h
 ·obtain ⟨ps, h1, h⟩ := Option.bind_eq_some_iff.1 h
  split at h
  ·cases h
   have key : ∀ n, n < (mkL ps).length → (nd (mkL ps) n).int ≤ 9223372036854775807 ∧ (nd (mkL ps) n).pos ≤ 9223372036854775807 := fun n hn => by
    rw [mkL_len] at hn
    rw [mkL_nd ps hn]
    refine rows_le h1 (ps.getD n default) ?_
    rw [List.getD_eq_getElem?_getD, List.getElem?_eq_getElem hn]
    exact List.getElem_mem hn
   exact ⟨fun n hn => (key n hn).1, fun n hn => (key n hn).2⟩
  ·cases h
end Go.Proofs.YtekgnogjfggnmaaGreatDoor
