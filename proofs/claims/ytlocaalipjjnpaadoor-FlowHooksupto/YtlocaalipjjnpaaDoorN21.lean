import Derived.Test.YtlocaalipjjnpaaDoorN17
import Derived.Test.YtlocaalipjjnpaaDoorN18
import Derived.Test.YtlocaalipjjnpaaDoorN19
import Derived.Test.YtlocaalipjjnpaaDoorN20
import Derived.Test.YtlocaalipjjnpaaDoorN05
import Derived.Test.YtlocaalipjjnpaaDoorN14
import Derived.Test.YtlocaalipjjnpaaDoorN11
namespace Go.Proofs.YtlocaalipjjnpaaDoor
open Go.RowKit

/-- Are a node's fields as its kind says, by the reference? -/
def fieldsR (x : Nd) : Bool :=
  if x.kind = 1 then (decide (0 ≤ x.pos) && !(!bareZ x.name x.label x.typ x.op x.int x.text)) && true else
  if x.kind = 2 then (decide (0 ≤ x.pos) && !(!bareZ ⟨#[]⟩ x.label ⟨#[]⟩ x.op x.int x.text)) && ((decide (0 < x.name.size) && nameS x.name) && ((x.typ.toList == []) || typeS x.typ)) else
  if x.kind = 3 then (decide (0 ≤ x.pos) && !(!bareZ ⟨#[]⟩ x.label ⟨#[]⟩ x.op x.int x.text)) && ((decide (0 < x.name.size) && nameS x.name) && typeS x.typ) else
  if x.kind = 4 then (decide (0 ≤ x.pos) && !(!bareZ x.name x.label x.typ x.op x.int x.text)) && true else
  if x.kind = 5 then (decide (0 ≤ x.pos) && !(!bareZ ⟨#[]⟩ x.label ⟨#[]⟩ x.op x.int x.text)) && ((decide (0 < x.name.size) && nameS x.name) && typeS x.typ) else
  if x.kind = 6 then (decide (0 ≤ x.pos) && !(!bareZ x.name x.label x.typ x.op x.int x.text)) && true else
  if x.kind = 7 then (decide (0 ≤ x.pos) && !(!bareZ x.name x.label x.typ x.op x.int x.text)) && true else
  if x.kind = 8 then (decide (0 ≤ x.pos) && !(!bareZ x.name ⟨#[]⟩ x.typ x.op x.int x.text)) && ((x.label.toList == []) || (decide (0 < x.label.size) && nameS x.label)) else
  if x.kind = 9 then (decide (0 ≤ x.pos) && !(!bareZ ⟨#[]⟩ ⟨#[]⟩ x.typ x.op x.int x.text)) && (((x.label.toList == []) || (decide (0 < x.label.size) && nameS x.label)) && (decide (0 < x.name.size) && nameS x.name)) else
  if x.kind = 10 then (decide (0 ≤ x.pos) && !(!bareZ x.name ⟨#[]⟩ x.typ x.op x.int x.text)) && ((x.label.toList == []) || (decide (0 < x.label.size) && nameS x.label)) else
  if x.kind = 11 then (decide (0 ≤ x.pos) && !(!bareZ x.name ⟨#[]⟩ x.typ x.op x.int x.text)) && ((x.label.toList == []) || (decide (0 < x.label.size) && nameS x.label)) else
  if x.kind = 12 then (decide (0 ≤ x.pos) && !(!bareZ x.name x.label x.typ x.op 0 x.text)) && (decide (0 ≤ x.int) && decide (x.int ≤ 40000)) else
  if x.kind = 13 then (decide (0 ≤ x.pos) && !(!bareZ x.name x.label x.typ x.op x.int x.text)) && true else
  if x.kind = 14 then (decide (0 ≤ x.pos) && !(!bareZ x.name x.label x.typ x.op x.int x.text)) && true else
  if x.kind = 15 then (decide (0 ≤ x.pos) && !(!bareZ x.name x.label x.typ x.op x.int x.text)) && true else
  if x.kind = 16 then (decide (0 ≤ x.pos) && !(!bareZ ⟨#[]⟩ x.label x.typ x.op 0 x.text)) && ((decide (1 ≤ x.int) && decide (x.int ≤ 40000)) && ((x.name.toList == []) || (decide (0 < x.name.size) && nameS x.name))) else
  if x.kind = 20 then (decide (0 ≤ x.pos) && !(!bareZ x.name x.label x.typ x.op 0 x.text)) && decide (0 ≤ x.int) else
  if x.kind = 21 then (decide (0 ≤ x.pos) && !(!bareZ x.name x.label x.typ x.op 0 x.text)) && ((x.int == 0) || (x.int == 1)) else
  if x.kind = 22 then (decide (0 ≤ x.pos) && !(!bareZ x.name x.label x.typ x.op x.int ⟨#[]⟩)) && decide ((x.text.size : Int) ≤ 200) else
  if x.kind = 23 then (decide (0 ≤ x.pos) && !(!bareZ ⟨#[]⟩ x.label x.typ x.op x.int x.text)) && (decide (0 < x.name.size) && nameS x.name) else
  if x.kind = 24 then (decide (0 ≤ x.pos) && !(!bareZ x.name x.label x.typ x.op x.int x.text)) && true else
  if x.kind = 25 then (decide (0 ≤ x.pos) && !(!bareZ ⟨#[]⟩ x.label x.typ x.op x.int x.text)) && (decide (0 < x.name.size) && nameS x.name) else
  if x.kind = 26 then (decide (0 ≤ x.pos) && !(!bareZ x.name x.label x.typ 0 x.int x.text)) && ((x.op == 1) || (x.op == 2)) else
  if x.kind = 27 then (decide (0 ≤ x.pos) && !(!bareZ x.name x.label x.typ 0 x.int x.text)) && (decide (3 ≤ x.op) && decide (x.op ≤ 15)) else
  if x.kind = 28 then (decide (0 ≤ x.pos) && !(!bareZ x.name x.label ⟨#[]⟩ x.op x.int x.text)) && typeS x.typ else
  if x.kind = 29 then (decide (0 ≤ x.pos) && !(!bareZ x.name x.label x.typ x.op x.int x.text)) && true else
  if x.kind = 30 then (decide (0 ≤ x.pos) && !(!bareZ x.name x.label x.typ x.op x.int x.text)) && true else
  (decide (0 ≤ x.pos) && !(!bareZ x.name x.label x.typ x.op x.int x.text)) && false

theorem fields_any (x : Nd) (w : World) (hc : RKw w) (h1 : x.name.size ≤ 140737488355328) (h2 : x.label.size ≤ 140737488355328) (h3 : x.typ.size ≤ 140737488355328) :
    Calls Tryd.prog 27 #[.agg (ndV x)] w fun e w' => e = .returned (.bool (fieldsR x)) ∧ Below w.heap.size w w' := by
  obtain ⟨q, ps, nm, lb, ty, op, it, tx, zz⟩ := x
  have HL : Hid (∀ w', Below w.heap.size w w' → Calls Tryd.prog 40 #[.string lb] w' fun e w'' => e = .returned (.bool (decide (0 < lb.size) && nameS lb)) ∧ w' = w'') := fun w' hb => refName_any lb w' (hc.next hb) h2
  have HM : Hid (∀ w', Below w.heap.size w w' → Calls Tryd.prog 40 #[.string nm] w' fun e w'' => e = .returned (.bool (decide (0 < nm.size) && nameS nm)) ∧ w' = w'') := fun w' hb => refName_any nm w' (hc.next hb) h1
  have HY : Hid (∀ w', Below w.heap.size w w' → Calls Tryd.prog 41 #[.string ty] w' fun e w'' => e = .returned (.bool (typeS ty)) ∧ w' = w'') := fun w' _ => refType_any ty w' h3
  unfold fieldsR
  simp only [ndV]
  by_cases h1 : q = 1
  · rw [if_pos h1]
    subst h1
    exact fields_1 ps nm lb ty op it tx zz w _ _ _ _ (neqBare 1 _ _ _ _ _ _) HL HM HY
  by_cases h2 : q = 2
  · rw [if_neg h1, if_pos h2]
    subst h2
    exact fields_2 ps nm lb ty op it tx zz w _ _ _ _ (neqBare 2 _ _ _ _ _ _) HL HM HY
  by_cases h3 : q = 3
  · rw [if_neg h1, if_neg h2, if_pos h3]
    subst h3
    exact fields_3 ps nm lb ty op it tx zz w _ _ _ _ (neqBare 3 _ _ _ _ _ _) HL HM HY
  by_cases h4 : q = 4
  · rw [if_neg h1, if_neg h2, if_neg h3, if_pos h4]
    subst h4
    exact fields_4 ps nm lb ty op it tx zz w _ _ _ _ (neqBare 4 _ _ _ _ _ _) HL HM HY
  by_cases h5 : q = 5
  · rw [if_neg h1, if_neg h2, if_neg h3, if_neg h4, if_pos h5]
    subst h5
    exact fields_5 ps nm lb ty op it tx zz w _ _ _ _ (neqBare 5 _ _ _ _ _ _) HL HM HY
  by_cases h6 : q = 6
  · rw [if_neg h1, if_neg h2, if_neg h3, if_neg h4, if_neg h5, if_pos h6]
    subst h6
    exact fields_6 ps nm lb ty op it tx zz w _ _ _ _ (neqBare 6 _ _ _ _ _ _) HL HM HY
  by_cases h7 : q = 7
  · rw [if_neg h1, if_neg h2, if_neg h3, if_neg h4, if_neg h5, if_neg h6, if_pos h7]
    subst h7
    exact fields_7 ps nm lb ty op it tx zz w _ _ _ _ (neqBare 7 _ _ _ _ _ _) HL HM HY
  by_cases h8 : q = 8
  · rw [if_neg h1, if_neg h2, if_neg h3, if_neg h4, if_neg h5, if_neg h6, if_neg h7, if_pos h8]
    subst h8
    exact fields_8 ps nm lb ty op it tx zz w _ _ _ _ (neqBare 8 _ _ _ _ _ _) HL HM HY
  by_cases h9 : q = 9
  · rw [if_neg h1, if_neg h2, if_neg h3, if_neg h4, if_neg h5, if_neg h6, if_neg h7, if_neg h8, if_pos h9]
    subst h9
    exact fields_9 ps nm lb ty op it tx zz w _ _ _ _ (neqBare 9 _ _ _ _ _ _) HL HM HY
  by_cases h10 : q = 10
  · rw [if_neg h1, if_neg h2, if_neg h3, if_neg h4, if_neg h5, if_neg h6, if_neg h7, if_neg h8, if_neg h9, if_pos h10]
    subst h10
    exact fields_10 ps nm lb ty op it tx zz w _ _ _ _ (neqBare 10 _ _ _ _ _ _) HL HM HY
  by_cases h11 : q = 11
  · rw [if_neg h1, if_neg h2, if_neg h3, if_neg h4, if_neg h5, if_neg h6, if_neg h7, if_neg h8, if_neg h9, if_neg h10, if_pos h11]
    subst h11
    exact fields_11 ps nm lb ty op it tx zz w _ _ _ _ (neqBare 11 _ _ _ _ _ _) HL HM HY
  by_cases h12 : q = 12
  · rw [if_neg h1, if_neg h2, if_neg h3, if_neg h4, if_neg h5, if_neg h6, if_neg h7, if_neg h8, if_neg h9, if_neg h10, if_neg h11, if_pos h12]
    subst h12
    exact fields_12 ps nm lb ty op it tx zz w _ _ _ _ (neqBare 12 _ _ _ _ _ _) HL HM HY
  by_cases h13 : q = 13
  · rw [if_neg h1, if_neg h2, if_neg h3, if_neg h4, if_neg h5, if_neg h6, if_neg h7, if_neg h8, if_neg h9, if_neg h10, if_neg h11, if_neg h12, if_pos h13]
    subst h13
    exact fields_13 ps nm lb ty op it tx zz w _ _ _ _ (neqBare 13 _ _ _ _ _ _) HL HM HY
  by_cases h14 : q = 14
  · rw [if_neg h1, if_neg h2, if_neg h3, if_neg h4, if_neg h5, if_neg h6, if_neg h7, if_neg h8, if_neg h9, if_neg h10, if_neg h11, if_neg h12, if_neg h13, if_pos h14]
    subst h14
    exact fields_14 ps nm lb ty op it tx zz w _ _ _ _ (neqBare 14 _ _ _ _ _ _) HL HM HY
  by_cases h15 : q = 15
  · rw [if_neg h1, if_neg h2, if_neg h3, if_neg h4, if_neg h5, if_neg h6, if_neg h7, if_neg h8, if_neg h9, if_neg h10, if_neg h11, if_neg h12, if_neg h13, if_neg h14, if_pos h15]
    subst h15
    exact fields_15 ps nm lb ty op it tx zz w _ _ _ _ (neqBare 15 _ _ _ _ _ _) HL HM HY
  by_cases h16 : q = 16
  · rw [if_neg h1, if_neg h2, if_neg h3, if_neg h4, if_neg h5, if_neg h6, if_neg h7, if_neg h8, if_neg h9, if_neg h10, if_neg h11, if_neg h12, if_neg h13, if_neg h14, if_neg h15, if_pos h16]
    subst h16
    exact fields_16 ps nm lb ty op it tx zz w _ _ _ _ (neqBare 16 _ _ _ _ _ _) HL HM HY
  by_cases h20 : q = 20
  · rw [if_neg h1, if_neg h2, if_neg h3, if_neg h4, if_neg h5, if_neg h6, if_neg h7, if_neg h8, if_neg h9, if_neg h10, if_neg h11, if_neg h12, if_neg h13, if_neg h14, if_neg h15, if_neg h16, if_pos h20]
    subst h20
    exact fields_20 ps nm lb ty op it tx zz w _ _ _ _ (neqBare 20 _ _ _ _ _ _) HL HM HY
  by_cases h21 : q = 21
  · rw [if_neg h1, if_neg h2, if_neg h3, if_neg h4, if_neg h5, if_neg h6, if_neg h7, if_neg h8, if_neg h9, if_neg h10, if_neg h11, if_neg h12, if_neg h13, if_neg h14, if_neg h15, if_neg h16, if_neg h20, if_pos h21]
    subst h21
    exact fields_21 ps nm lb ty op it tx zz w _ _ _ _ (neqBare 21 _ _ _ _ _ _) HL HM HY
  by_cases h22 : q = 22
  · rw [if_neg h1, if_neg h2, if_neg h3, if_neg h4, if_neg h5, if_neg h6, if_neg h7, if_neg h8, if_neg h9, if_neg h10, if_neg h11, if_neg h12, if_neg h13, if_neg h14, if_neg h15, if_neg h16, if_neg h20, if_neg h21, if_pos h22]
    subst h22
    exact fields_22 ps nm lb ty op it tx zz w _ _ _ _ (neqBare 22 _ _ _ _ _ _) HL HM HY
  by_cases h23 : q = 23
  · rw [if_neg h1, if_neg h2, if_neg h3, if_neg h4, if_neg h5, if_neg h6, if_neg h7, if_neg h8, if_neg h9, if_neg h10, if_neg h11, if_neg h12, if_neg h13, if_neg h14, if_neg h15, if_neg h16, if_neg h20, if_neg h21, if_neg h22, if_pos h23]
    subst h23
    exact fields_23 ps nm lb ty op it tx zz w _ _ _ _ (neqBare 23 _ _ _ _ _ _) HL HM HY
  by_cases h24 : q = 24
  · rw [if_neg h1, if_neg h2, if_neg h3, if_neg h4, if_neg h5, if_neg h6, if_neg h7, if_neg h8, if_neg h9, if_neg h10, if_neg h11, if_neg h12, if_neg h13, if_neg h14, if_neg h15, if_neg h16, if_neg h20, if_neg h21, if_neg h22, if_neg h23, if_pos h24]
    subst h24
    exact fields_24 ps nm lb ty op it tx zz w _ _ _ _ (neqBare 24 _ _ _ _ _ _) HL HM HY
  by_cases h25 : q = 25
  · rw [if_neg h1, if_neg h2, if_neg h3, if_neg h4, if_neg h5, if_neg h6, if_neg h7, if_neg h8, if_neg h9, if_neg h10, if_neg h11, if_neg h12, if_neg h13, if_neg h14, if_neg h15, if_neg h16, if_neg h20, if_neg h21, if_neg h22, if_neg h23, if_neg h24, if_pos h25]
    subst h25
    exact fields_25 ps nm lb ty op it tx zz w _ _ _ _ (neqBare 25 _ _ _ _ _ _) HL HM HY
  by_cases h26 : q = 26
  · rw [if_neg h1, if_neg h2, if_neg h3, if_neg h4, if_neg h5, if_neg h6, if_neg h7, if_neg h8, if_neg h9, if_neg h10, if_neg h11, if_neg h12, if_neg h13, if_neg h14, if_neg h15, if_neg h16, if_neg h20, if_neg h21, if_neg h22, if_neg h23, if_neg h24, if_neg h25, if_pos h26]
    subst h26
    exact fields_26 ps nm lb ty op it tx zz w _ _ _ _ (neqBare 26 _ _ _ _ _ _) HL HM HY
  by_cases h27 : q = 27
  · rw [if_neg h1, if_neg h2, if_neg h3, if_neg h4, if_neg h5, if_neg h6, if_neg h7, if_neg h8, if_neg h9, if_neg h10, if_neg h11, if_neg h12, if_neg h13, if_neg h14, if_neg h15, if_neg h16, if_neg h20, if_neg h21, if_neg h22, if_neg h23, if_neg h24, if_neg h25, if_neg h26, if_pos h27]
    subst h27
    exact fields_27 ps nm lb ty op it tx zz w _ _ _ _ (neqBare 27 _ _ _ _ _ _) HL HM HY
  by_cases h28 : q = 28
  · rw [if_neg h1, if_neg h2, if_neg h3, if_neg h4, if_neg h5, if_neg h6, if_neg h7, if_neg h8, if_neg h9, if_neg h10, if_neg h11, if_neg h12, if_neg h13, if_neg h14, if_neg h15, if_neg h16, if_neg h20, if_neg h21, if_neg h22, if_neg h23, if_neg h24, if_neg h25, if_neg h26, if_neg h27, if_pos h28]
    subst h28
    exact fields_28 ps nm lb ty op it tx zz w _ _ _ _ (neqBare 28 _ _ _ _ _ _) HL HM HY
  by_cases h29 : q = 29
  · rw [if_neg h1, if_neg h2, if_neg h3, if_neg h4, if_neg h5, if_neg h6, if_neg h7, if_neg h8, if_neg h9, if_neg h10, if_neg h11, if_neg h12, if_neg h13, if_neg h14, if_neg h15, if_neg h16, if_neg h20, if_neg h21, if_neg h22, if_neg h23, if_neg h24, if_neg h25, if_neg h26, if_neg h27, if_neg h28, if_pos h29]
    subst h29
    exact fields_29 ps nm lb ty op it tx zz w _ _ _ _ (neqBare 29 _ _ _ _ _ _) HL HM HY
  by_cases h30 : q = 30
  · rw [if_neg h1, if_neg h2, if_neg h3, if_neg h4, if_neg h5, if_neg h6, if_neg h7, if_neg h8, if_neg h9, if_neg h10, if_neg h11, if_neg h12, if_neg h13, if_neg h14, if_neg h15, if_neg h16, if_neg h20, if_neg h21, if_neg h22, if_neg h23, if_neg h24, if_neg h25, if_neg h26, if_neg h27, if_neg h28, if_neg h29, if_pos h30]
    subst h30
    exact fields_30 ps nm lb ty op it tx zz w _ _ _ _ (neqBare 30 _ _ _ _ _ _) HL HM HY
  rw [if_neg h1, if_neg h2, if_neg h3, if_neg h4, if_neg h5, if_neg h6, if_neg h7, if_neg h8, if_neg h9, if_neg h10, if_neg h11, if_neg h12, if_neg h13, if_neg h14, if_neg h15, if_neg h16, if_neg h20, if_neg h21, if_neg h22, if_neg h23, if_neg h24, if_neg h25, if_neg h26, if_neg h27, if_neg h28, if_neg h29, if_neg h30]
  refine fields_none q ?_ ps nm lb ty op it tx zz w _ _ _ _ (neqBare q _ _ _ _ _ _) HL HM HY
  intro k hk
  simp only [List.mem_cons, List.not_mem_nil, or_false] at hk
  rcases hk with rfl | rfl | rfl | rfl | rfl | rfl | rfl | rfl | rfl | rfl | rfl | rfl | rfl | rfl | rfl | rfl | rfl | rfl | rfl | rfl | rfl | rfl | rfl | rfl | rfl | rfl | rfl
  · exact h1
  · exact h2
  · exact h3
  · exact h4
  · exact h5
  · exact h6
  · exact h7
  · exact h8
  · exact h9
  · exact h10
  · exact h11
  · exact h12
  · exact h13
  · exact h14
  · exact h15
  · exact h16
  · exact h20
  · exact h21
  · exact h22
  · exact h23
  · exact h24
  · exact h25
  · exact h26
  · exact h27
  · exact h28
  · exact h29
  · exact h30
end Go.Proofs.YtlocaalipjjnpaaDoor

namespace Go.Proofs.YtlocaalipjjnpaaDoor
open Go.RowKit

def nodeR (L : List Nd) (n : Nat) : Bool := fieldsR (nd L n) && shapeR L (kidsB L n) (nd L n).kind
/-- Is the list a tree, by the reference? -/
def refS (L : List Nd) : Bool := (((decide (0 < L.length) && (sz L 0 == (L.length : Int))) && sizesS L 1 L.length) && ((nd L 0).kind == 1 || isExpr (nd L 0).kind)) && (List.range L.length).all (nodeR L)

set_option maxRecDepth 100000 in
set_option maxHeartbeats 1000000 in
theorem rvalid_any (w : World) (p : Option Addr) (n cap : Nat) (L : List Nd) (h : Reads w p n L) (hk : RKw w) :
    Calls Tryd.prog 10 #[.agg #[.slice p n cap]] w fun e w' => e = .returned (.int .i64 (if refS L then 0 else 30)) ∧ Below w.heap.size w w' := by
  obtain ⟨w1, hw1⟩ : ∃ w1, w.alloc (.cells #[.slice p n cap] 24) = w1 := ⟨_, rfl⟩
  have B1 : Hid (Below w.heap.size w w1) := by show Below _ _ _; rw [← hw1]; exact (Below.refl _ w).alloc (Nat.le_refl _) _
  have c1 : w1.cell? ⟨w.heap.size, 0, none⟩ = some (.slice p n cap) := by rw [← hw1]; exact cell_new _ _ _ _ _ rfl
  have RD : Hid (Reads w1 p n L) := h.next B1.out
  have HK : Hid (RKw w1) := hk.next B1.out
  clear h hk
  obtain ⟨hf, hlen, hr⟩ := RD.out
  have hLb := hf.len
  by_cases hne : L = []
  · subst hne
    obtain rfl : n = 0 := by simpa using hlen.symm
    have hS : refS [] = false := rfl
    rw [hS]
    clear hS hr hf RD hlen HK hLb
    go_enter Tryd.func10, Tryd.ntmps10
    go_wp2
    go_ret
    exact ⟨rfl, B1.out⟩
  · obtain ⟨g, o, rfl, hl⟩ := hr hne
    have hpos : 0 < L.length := by
      rcases Nat.eq_zero_or_pos L.length with h0 | h0
      · exact absurd (List.length_eq_zero_iff.1 h0) hne
      · exact h0
    subst hlen
    have HL1 : Hid (Lay w1 g o L) := hl
    have HF : Hid (Fine L) := hf
    have ds := hl.size hpos
    have dk := hl.kind hpos
    rw [Nat.zero_mul, Nat.add_zero] at ds dk
    obtain ⟨s, hs⟩ : ∃ s, sz L 0 = s := ⟨_, rfl⟩
    obtain ⟨q, hq⟩ : ∃ q, (nd L 0).kind = q := ⟨_, rfl⟩
    rw [show (nd L 0).size = s from hs] at ds
    rw [hq] at dk
    have i0 : ((L.length : Int) == 0) = false := by rw [beq_eq_false_iff_ne]; omega
    have i1 : (0 : Int) < (L.length : Int) := by omega
    clear hr hf hl RD
    obtain ⟨b, hb⟩ : ∃ b, refS L = b := ⟨_, rfl⟩
    have hbs : ((((s == (L.length : Int)) && sizesS L 1 L.length) && (q == 1 || isExpr q)) && (List.range L.length).all (nodeR L)) = b := by
      rw [← hb]
      unfold refS
      rw [hs, hq]
      simp [hpos]
    rw [hb]
    clear hb hne
    cases h1 : (s == (L.length : Int)) with
    | false =>
      have HB : b = false := by rw [← hbs, h1]; rfl
      subst HB
      have h1' : (s != (L.length : Int)) = true := by simpa [bne] using h1
      clear h1 hbs hs hq
      go_enter Tryd.func10, Tryd.ntmps10
      go_wp2
      go_ret
      exact ⟨rfl, B1.out⟩
    | true =>
      have hsl : s = (L.length : Int) := by simpa using h1
      subst hsl
      rw [h1, Bool.true_and] at hbs
      clear h1
      have HC := sizes_any g o cap L hLb w1 HL1 L.length 0 (by rw [hs]; exact Int.le_refl _) hpos (by rw [hs]; omega) (by rw [hs]; simp)
      rw [hs, Int.toNat_natCast, Nat.zero_add, Nat.zero_add] at HC
      obtain ⟨r, hrr⟩ : ∃ r, sizesS L 1 L.length = r := ⟨_, rfl⟩
      rw [hrr] at HC hbs
      have HC' : Hid (Calls Tryd.prog 25 #[.slice (some ⟨g, o, none⟩) L.length cap, .int .i64 0] w1 fun e w' => e = .returned (.bool r) ∧ w1 = w') := HC
      clear HC
      cases r with
      | false =>
        have HB : b = false := by rw [← hbs]; rfl
        subst HB
        clear hbs hs hq hrr
        go_enter Tryd.func10, Tryd.ntmps10
        go_wp2_with (first
          | (go_at_call 25; refine HC'.out.mono ?_; rintro e w2 ⟨rfl, hw2⟩; subst hw2)
          | go_in)
        go_ret
        exact ⟨rfl, B1.out⟩
      | true =>
        rw [Bool.true_and] at hbs
        have HSZ : Hid (∀ m, m < L.length → Good L m ∧ sizesS L (m + 1) (endOf L m) = true) := sizes_root hs hpos hrr
        have HQE : Hid (∀ w', Calls Tryd.prog 26 #[.int .i64 q] w' fun e w'' => e = .returned (.bool (isExpr q)) ∧ w' = w'') := fun w' => rExpr_any q w'
        obtain ⟨x, hx⟩ : ∃ x, isExpr q = x := ⟨_, rfl⟩
        rw [hx] at HQE hbs
        clear hs hq hrr hx
        by_cases hroot : (q == 1 || x) = true
        · rw [hroot, Bool.true_and] at hbs
          have HBS : Hid ((List.range L.length).all (nodeR L) = b) := hbs
          have hq1 : (q == 1) = true ∨ ((q == 1) = false ∧ x = true) := by cases hh : (q == 1) <;> simp_all
          have hq2 : ((q != 1) = false) ∨ ((q != 1) = true ∧ x = true) := by
            rcases hq1 with h | ⟨h, h'⟩
            · exact .inl (by simpa [bne] using h)
            · exact .inr ⟨by simpa [bne] using h, h'⟩
          clear hbs hroot hq1
          go_enter Tryd.func10, Tryd.ntmps10
          rcases hq2 with hq3 | ⟨hq3, rfl⟩
          all_goals go_upto_region 6 with (first
            | (go_at_call 25; refine HC'.out.mono ?_; rintro e w2 ⟨rfl, hw2⟩; subst hw2)
            | (go_at_call 26; refine (HQE.out w1).mono ?_; rintro e w2 ⟨rfl, hw2⟩; subst hw2)
            | go_in)
          all_goals clear HC' HQE ds dk c1 hq3 hw1
          all_goals (
            go_wp2
            go_loopw [4] (fun v wr => ∃ k : Nat, k ≤ L.length ∧ v = .int .i64 (k : Int) ∧ Hid (∀ j, j < k → nodeR L j = true) ∧ Hid (Below w1.heap.size w1 wr)) (fun v _ => L.length - (intOf v).toNat)
            case atStart => exact ⟨0, by omega, rfl, fun j hj => by omega, Below.refl _ _⟩
            case round =>
              obtain ⟨k, hk, rfl, hn, hB⟩ := hrel
              by_cases hlt : k < L.length
              · have j0 : (0 : Int) ≤ (k : Int) := by omega
                have j1 : (k : Int) < (L.length : Int) := by omega
                have j2 : IntKind.i64.wrap ((k : Int) + 1) = (k : Int) + 1 := by rw [IntKind.wrap_i64]; omega
                have hLay := HL1.out.next hB.out
                have HFd : Hid (Calls Tryd.prog 27 #[.agg (ndV (nd L k))] wr fun e w' => e = .returned (.bool (fieldsR (nd L k))) ∧ Below wr.heap.size wr w') := fields_any (nd L k) wr (HK.out.next hB.out) (HF.out.txt k hlt).1 (HF.out.txt k hlt).2.1 (HF.out.txt k hlt).2.2.1
                have HSh : Hid (∀ w', Below wr.heap.size wr w' → Calls Tryd.prog 28 #[.slice (some ⟨g, o, none⟩) L.length cap, .int .i64 (k : Int)] w' fun e w'' => e = .returned (.bool (shapeR L (kidsB L k) (nd L k).kind)) ∧ Below w'.heap.size w' w'') := fun w' hb => shape_any w' g o cap L k hLb (hLay.next hb) hlt (fun m hm => (HSZ.out m hm).1) (HSZ.out k hlt).2
                obtain ⟨rf, hrf⟩ : ∃ rf, fieldsR (nd L k) = rf := ⟨_, rfl⟩
                obtain ⟨rs, hrs⟩ : ∃ rs, shapeR L (kidsB L k) (nd L k).kind = rs := ⟨_, rfl⟩
                have HND : Hid (nodeR L k = (rf && rs)) := by show nodeR L k = _; unfold nodeR; rw [hrf, hrs]
                rw [hrf] at HFd
                rw [hrs] at HSh
                have cs := hLay.c k hlt
                obtain ⟨y, hy⟩ : ∃ y, nd L k = y := ⟨_, rfl⟩
                rw [hy] at HFd cs
                obtain ⟨k0, k1, k2, k3, k4, k5, k6, k7, k8⟩ := y
                have d0 := cs 0 _ rfl
                have d1 := cs 1 _ rfl
                have d2 := cs 2 _ rfl
                have d3 := cs 3 _ rfl
                have d4 := cs 4 _ rfl
                have d5 := cs 5 _ rfl
                have d6 := cs 6 _ rfl
                have d7 := cs 7 _ rfl
                have d8 := cs 8 _ rfl
                rw [Nat.add_zero] at d0
                have HFd' : Hid (Calls Tryd.prog 27 #[.agg #[.int .i64 k0, .int .i64 k1, .string k2, .string k3, .string k4, .int .i64 k5, .int .i64 k6, .string k7, .int .i64 k8]] wr fun e w' => e = .returned (.bool rf) ∧ Below wr.heap.size wr w') := HFd
                clear cs hy hrf hrs hLay HFd
                cases rf with
                | false =>
                  have HB : b = false := by
                    rw [← HBS.out]
                    exact all_upto (K := List.range L.length) (f := nodeR L) (k := k) (x := k) (by simp [hlt]) (by rw [HND.out]; rfl)
                  subst HB
                  clear HBS
                  go_wp2_with (first
                    | (go_at_call 27; refine HFd'.out.mono ?_; rintro e w2 ⟨rfl, hb2⟩)
                    | go_in)
                  go_ret
                  exact ⟨rfl, B1.out.trans ((hB.out.trans (hb2.mono hB.out.size)).mono B1.out.size)⟩
                | true =>
                  cases rs with
                  | false =>
                    have HB : b = false := by
                      rw [← HBS.out]
                      exact all_upto (K := List.range L.length) (f := nodeR L) (k := k) (x := k) (by simp [hlt]) (by rw [HND.out]; rfl)
                    subst HB
                    clear HBS
                    go_wp2_with (first
                      | (go_at_call 27; refine HFd'.out.mono ?_; rintro e w2 ⟨rfl, hb2⟩)
                      | (go_at_call 28; refine (HSh.out w2 hb2).mono ?_; rintro e w3 ⟨rfl, hb3⟩)
                      | go_in)
                    go_ret
                    exact ⟨rfl, B1.out.trans (((hB.out.trans (hb2.mono hB.out.size)).trans (hb3.mono (Nat.le_trans hB.out.size hb2.size))).mono B1.out.size)⟩
                  | true =>
                    go_wp2_with (first
                      | (go_at_call 27; refine HFd'.out.mono ?_; rintro e w2 ⟨rfl, hb2⟩)
                      | (go_at_call 28; refine (HSh.out w2 hb2).mono ?_; rintro e w3 ⟨rfl, hb3⟩)
                      | go_in)
                    refine ⟨⟨k + 1, by omega, by go_num, fun j hj => ?_, (hB.out.trans (hb2.mono hB.out.size)).trans (hb3.mono (Nat.le_trans hB.out.size hb2.size))⟩, by simp [intOf]; omega⟩
                    by_cases hjk : j < k
                    · exact hn.out j hjk
                    · obtain rfl : j = k := by omega
                      exact HND.out
              · obtain rfl : k = L.length := by omega
                have HB : b = true := by
                  rw [← HBS.out]
                  exact all_done (fun j x hj hx => by
                    rw [List.length_range] at hj
                    rw [List.getElem?_range hj] at hx
                    cases hx
                    exact hn.out j hj)
                subst HB
                clear HBS
                go_wp2
                go_ret
                exact ⟨rfl, B1.out.trans (hB.out.mono B1.out.size)⟩)
        · have hr2 : (q == 1 || x) = false := by simpa using hroot
          rw [hr2, Bool.false_and] at hbs
          subst hbs
          have hq1 : (q != 1) = true := by cases hh : (q == 1) <;> simp_all
          have hx0 : x = false := by cases x <;> simp_all
          subst hx0
          clear hroot hr2
          go_enter Tryd.func10, Tryd.ntmps10
          go_wp2_with (first
            | (go_at_call 25; refine HC'.out.mono ?_; rintro e w2 ⟨rfl, hw2⟩; subst hw2)
            | (go_at_call 26; refine (HQE.out w1).mono ?_; rintro e w2 ⟨rfl, hw2⟩; subst hw2)
            | go_in)
          go_ret
          exact ⟨rfl, B1.out⟩
end Go.Proofs.YtlocaalipjjnpaaDoor

namespace Go.Proofs.YtlocaalipjjnpaaDoor

theorem tl_size (t : ByteArray) : (t.toList == []) = decide (t.size = 0) := by
  rw [toL]
  cases h : t.data.toList with
  | nil => have : t.size = 0 := by rw [Lib.size_eq, h]; rfl
           simp [this]
  | cons a r => have : ¬ t.size = 0 := by rw [Lib.size_eq, h]; simp
                simp [this]
theorem fits0 (t : ByteArray) (g : ByteArray → Bool) : fitsS 0 t g = decide (t.size = 0) := by
  unfold fitsS
  by_cases h : t.size = 0 <;> simp [h]
theorem fits1 (t : ByteArray) (g : ByteArray → Bool) : fitsS 1 t g = (decide (t.size = 0) || g t) := by
  unfold fitsS
  by_cases h : t.size = 0 <;> simp [h]
theorem fits2 (t : ByteArray) (g : ByteArray → Bool) : fitsS 2 t g = (decide (0 < t.size) && g t) := by
  unfold fitsS
  by_cases h : t.size = 0
  · simp [h]
  · have h2 : 0 < t.size := by omega
    simp [h, h2]
theorem type_nil (t : ByteArray) (h : t.size = 0) : typeS t = false := by
  have hb : bracB t = false := by
    unfold bracB
    have : ¬ 2 ≤ t.size := by omega
    simp [this]
  have h1 : baseB t = false := by
    unfold baseB
    rw [toL]
    have e : t.data.toList = [] := List.length_eq_zero_iff.1 (by rw [← Lib.size_eq]; exact h)
    rw [e]
    rfl
  unfold typeS
  rw [typ_stop 4 t hb]
  exact h1
theorem nil_size : (⟨#[]⟩ : ByteArray).size = 0 := rfl

theorem fr_1 (ps : Int) (nm lb ty : ByteArray) (op it : Int) (tx : ByteArray) (zz : Int) (hm : it ≤ 9223372036854775807) : fieldsR ⟨1, ps, nm, lb, ty, op, it, tx, zz⟩ = ((shp 1).2 && fieldsS nameS typeS (shp 1).1 ⟨1, ps, nm, lb, ty, op, it, tx, zz⟩) := by
  have hty := type_nil ty
  have hm2 : it ≤ 9223372036854775807 := hm
  have e1 : fieldsR ⟨1, ps, nm, lb, ty, op, it, tx, zz⟩ = ((decide (0 ≤ ps) && !(!bareZ nm lb ty op it tx)) && true) := rfl
  have e2 : shp 1 = (⟨0, 0, 0, 0, 0, 0, 0, 0, 0, 9223372036854775807⟩, true) := rfl
  rw [e1, e2]
  unfold fieldsS bareZ
  clear e1 e2
  rw [Bool.eq_iff_iff]
  try simp only [tl_size]
  try simp only [nil_size]
  try simp only [fits0]
  try simp only [fits1]
  try simp only [fits2]
  grind

theorem fr_2 (ps : Int) (nm lb ty : ByteArray) (op it : Int) (tx : ByteArray) (zz : Int) (hm : it ≤ 9223372036854775807) : fieldsR ⟨2, ps, nm, lb, ty, op, it, tx, zz⟩ = ((shp 2).2 && fieldsS nameS typeS (shp 2).1 ⟨2, ps, nm, lb, ty, op, it, tx, zz⟩) := by
  have hty := type_nil ty
  have hm2 : it ≤ 9223372036854775807 := hm
  have e1 : fieldsR ⟨2, ps, nm, lb, ty, op, it, tx, zz⟩ = ((decide (0 ≤ ps) && !(!bareZ ⟨#[]⟩ lb ⟨#[]⟩ op it tx)) && ((decide (0 < nm.size) && nameS nm) && ((ty.toList == []) || typeS ty))) := rfl
  have e2 : shp 2 = (⟨0, 2, 1, 0, 0, 0, 0, 0, 1, 9⟩, true) := rfl
  rw [e1, e2]
  unfold fieldsS bareZ
  clear e1 e2
  rw [Bool.eq_iff_iff]
  try simp only [tl_size]
  try simp only [nil_size]
  try simp only [fits0]
  try simp only [fits1]
  try simp only [fits2]
  grind

theorem fr_3 (ps : Int) (nm lb ty : ByteArray) (op it : Int) (tx : ByteArray) (zz : Int) (hm : it ≤ 9223372036854775807) : fieldsR ⟨3, ps, nm, lb, ty, op, it, tx, zz⟩ = ((shp 3).2 && fieldsS nameS typeS (shp 3).1 ⟨3, ps, nm, lb, ty, op, it, tx, zz⟩) := by
  have hty := type_nil ty
  have hm2 : it ≤ 9223372036854775807 := hm
  have e1 : fieldsR ⟨3, ps, nm, lb, ty, op, it, tx, zz⟩ = ((decide (0 ≤ ps) && !(!bareZ ⟨#[]⟩ lb ⟨#[]⟩ op it tx)) && ((decide (0 < nm.size) && nameS nm) && typeS ty)) := rfl
  have e2 : shp 3 = (⟨0, 2, 2, 0, 0, 0, 0, 0, 0, 0⟩, true) := rfl
  rw [e1, e2]
  unfold fieldsS bareZ
  clear e1 e2
  rw [Bool.eq_iff_iff]
  try simp only [tl_size]
  try simp only [nil_size]
  try simp only [fits0]
  try simp only [fits1]
  try simp only [fits2]
  grind

theorem fr_4 (ps : Int) (nm lb ty : ByteArray) (op it : Int) (tx : ByteArray) (zz : Int) (hm : it ≤ 9223372036854775807) : fieldsR ⟨4, ps, nm, lb, ty, op, it, tx, zz⟩ = ((shp 4).2 && fieldsS nameS typeS (shp 4).1 ⟨4, ps, nm, lb, ty, op, it, tx, zz⟩) := by
  have hty := type_nil ty
  have hm2 : it ≤ 9223372036854775807 := hm
  have e1 : fieldsR ⟨4, ps, nm, lb, ty, op, it, tx, zz⟩ = ((decide (0 ≤ ps) && !(!bareZ nm lb ty op it tx)) && true) := rfl
  have e2 : shp 4 = (⟨0, 0, 0, 0, 0, 0, 0, 0, 0, 9223372036854775807⟩, true) := rfl
  rw [e1, e2]
  unfold fieldsS bareZ
  clear e1 e2
  rw [Bool.eq_iff_iff]
  try simp only [tl_size]
  try simp only [nil_size]
  try simp only [fits0]
  try simp only [fits1]
  try simp only [fits2]
  grind

theorem fr_5 (ps : Int) (nm lb ty : ByteArray) (op it : Int) (tx : ByteArray) (zz : Int) (hm : it ≤ 9223372036854775807) : fieldsR ⟨5, ps, nm, lb, ty, op, it, tx, zz⟩ = ((shp 5).2 && fieldsS nameS typeS (shp 5).1 ⟨5, ps, nm, lb, ty, op, it, tx, zz⟩) := by
  have hty := type_nil ty
  have hm2 : it ≤ 9223372036854775807 := hm
  have e1 : fieldsR ⟨5, ps, nm, lb, ty, op, it, tx, zz⟩ = ((decide (0 ≤ ps) && !(!bareZ ⟨#[]⟩ lb ⟨#[]⟩ op it tx)) && ((decide (0 < nm.size) && nameS nm) && typeS ty)) := rfl
  have e2 : shp 5 = (⟨0, 2, 2, 0, 0, 0, 0, 0, 1, 1⟩, true) := rfl
  rw [e1, e2]
  unfold fieldsS bareZ
  clear e1 e2
  rw [Bool.eq_iff_iff]
  try simp only [tl_size]
  try simp only [nil_size]
  try simp only [fits0]
  try simp only [fits1]
  try simp only [fits2]
  grind

theorem fr_6 (ps : Int) (nm lb ty : ByteArray) (op it : Int) (tx : ByteArray) (zz : Int) (hm : it ≤ 9223372036854775807) : fieldsR ⟨6, ps, nm, lb, ty, op, it, tx, zz⟩ = ((shp 6).2 && fieldsS nameS typeS (shp 6).1 ⟨6, ps, nm, lb, ty, op, it, tx, zz⟩) := by
  have hty := type_nil ty
  have hm2 : it ≤ 9223372036854775807 := hm
  have e1 : fieldsR ⟨6, ps, nm, lb, ty, op, it, tx, zz⟩ = ((decide (0 ≤ ps) && !(!bareZ nm lb ty op it tx)) && true) := rfl
  have e2 : shp 6 = (⟨0, 0, 0, 0, 0, 0, 0, 0, 2, 2⟩, true) := rfl
  rw [e1, e2]
  unfold fieldsS bareZ
  clear e1 e2
  rw [Bool.eq_iff_iff]
  try simp only [tl_size]
  try simp only [nil_size]
  try simp only [fits0]
  try simp only [fits1]
  try simp only [fits2]
  grind

theorem fr_7 (ps : Int) (nm lb ty : ByteArray) (op it : Int) (tx : ByteArray) (zz : Int) (hm : it ≤ 9223372036854775807) : fieldsR ⟨7, ps, nm, lb, ty, op, it, tx, zz⟩ = ((shp 7).2 && fieldsS nameS typeS (shp 7).1 ⟨7, ps, nm, lb, ty, op, it, tx, zz⟩) := by
  have hty := type_nil ty
  have hm2 : it ≤ 9223372036854775807 := hm
  have e1 : fieldsR ⟨7, ps, nm, lb, ty, op, it, tx, zz⟩ = ((decide (0 ≤ ps) && !(!bareZ nm lb ty op it tx)) && true) := rfl
  have e2 : shp 7 = (⟨0, 0, 0, 0, 0, 0, 0, 0, 2, 3⟩, true) := rfl
  rw [e1, e2]
  unfold fieldsS bareZ
  clear e1 e2
  rw [Bool.eq_iff_iff]
  try simp only [tl_size]
  try simp only [nil_size]
  try simp only [fits0]
  try simp only [fits1]
  try simp only [fits2]
  grind

theorem fr_8 (ps : Int) (nm lb ty : ByteArray) (op it : Int) (tx : ByteArray) (zz : Int) (hm : it ≤ 9223372036854775807) : fieldsR ⟨8, ps, nm, lb, ty, op, it, tx, zz⟩ = ((shp 8).2 && fieldsS nameS typeS (shp 8).1 ⟨8, ps, nm, lb, ty, op, it, tx, zz⟩) := by
  have hty := type_nil ty
  have hm2 : it ≤ 9223372036854775807 := hm
  have e1 : fieldsR ⟨8, ps, nm, lb, ty, op, it, tx, zz⟩ = ((decide (0 ≤ ps) && !(!bareZ nm ⟨#[]⟩ ty op it tx)) && ((lb.toList == []) || (decide (0 < lb.size) && nameS lb))) := rfl
  have e2 : shp 8 = (⟨1, 0, 0, 0, 0, 0, 0, 0, 2, 2⟩, true) := rfl
  rw [e1, e2]
  unfold fieldsS bareZ
  clear e1 e2
  rw [Bool.eq_iff_iff]
  try simp only [tl_size]
  try simp only [nil_size]
  try simp only [fits0]
  try simp only [fits1]
  try simp only [fits2]
  grind

theorem fr_9 (ps : Int) (nm lb ty : ByteArray) (op it : Int) (tx : ByteArray) (zz : Int) (hm : it ≤ 9223372036854775807) : fieldsR ⟨9, ps, nm, lb, ty, op, it, tx, zz⟩ = ((shp 9).2 && fieldsS nameS typeS (shp 9).1 ⟨9, ps, nm, lb, ty, op, it, tx, zz⟩) := by
  have hty := type_nil ty
  have hm2 : it ≤ 9223372036854775807 := hm
  have e1 : fieldsR ⟨9, ps, nm, lb, ty, op, it, tx, zz⟩ = ((decide (0 ≤ ps) && !(!bareZ ⟨#[]⟩ ⟨#[]⟩ ty op it tx)) && (((lb.toList == []) || (decide (0 < lb.size) && nameS lb)) && (decide (0 < nm.size) && nameS nm))) := rfl
  have e2 : shp 9 = (⟨1, 2, 0, 0, 0, 0, 0, 0, 3, 3⟩, true) := rfl
  rw [e1, e2]
  unfold fieldsS bareZ
  clear e1 e2
  rw [Bool.eq_iff_iff]
  try simp only [tl_size]
  try simp only [nil_size]
  try simp only [fits0]
  try simp only [fits1]
  try simp only [fits2]
  grind

theorem fr_10 (ps : Int) (nm lb ty : ByteArray) (op it : Int) (tx : ByteArray) (zz : Int) (hm : it ≤ 9223372036854775807) : fieldsR ⟨10, ps, nm, lb, ty, op, it, tx, zz⟩ = ((shp 10).2 && fieldsS nameS typeS (shp 10).1 ⟨10, ps, nm, lb, ty, op, it, tx, zz⟩) := by
  have hty := type_nil ty
  have hm2 : it ≤ 9223372036854775807 := hm
  have e1 : fieldsR ⟨10, ps, nm, lb, ty, op, it, tx, zz⟩ = ((decide (0 ≤ ps) && !(!bareZ nm ⟨#[]⟩ ty op it tx)) && ((lb.toList == []) || (decide (0 < lb.size) && nameS lb))) := rfl
  have e2 : shp 10 = (⟨1, 0, 0, 0, 0, 0, 0, 0, 0, 0⟩, true) := rfl
  rw [e1, e2]
  unfold fieldsS bareZ
  clear e1 e2
  rw [Bool.eq_iff_iff]
  try simp only [tl_size]
  try simp only [nil_size]
  try simp only [fits0]
  try simp only [fits1]
  try simp only [fits2]
  grind

theorem fr_11 (ps : Int) (nm lb ty : ByteArray) (op it : Int) (tx : ByteArray) (zz : Int) (hm : it ≤ 9223372036854775807) : fieldsR ⟨11, ps, nm, lb, ty, op, it, tx, zz⟩ = ((shp 11).2 && fieldsS nameS typeS (shp 11).1 ⟨11, ps, nm, lb, ty, op, it, tx, zz⟩) := by
  have hty := type_nil ty
  have hm2 : it ≤ 9223372036854775807 := hm
  have e1 : fieldsR ⟨11, ps, nm, lb, ty, op, it, tx, zz⟩ = ((decide (0 ≤ ps) && !(!bareZ nm ⟨#[]⟩ ty op it tx)) && ((lb.toList == []) || (decide (0 < lb.size) && nameS lb))) := rfl
  have e2 : shp 11 = (⟨1, 0, 0, 0, 0, 0, 0, 0, 0, 0⟩, true) := rfl
  rw [e1, e2]
  unfold fieldsS bareZ
  clear e1 e2
  rw [Bool.eq_iff_iff]
  try simp only [tl_size]
  try simp only [nil_size]
  try simp only [fits0]
  try simp only [fits1]
  try simp only [fits2]
  grind

theorem fr_12 (ps : Int) (nm lb ty : ByteArray) (op it : Int) (tx : ByteArray) (zz : Int) (hm : it ≤ 9223372036854775807) : fieldsR ⟨12, ps, nm, lb, ty, op, it, tx, zz⟩ = ((shp 12).2 && fieldsS nameS typeS (shp 12).1 ⟨12, ps, nm, lb, ty, op, it, tx, zz⟩) := by
  have hty := type_nil ty
  have hm2 : it ≤ 9223372036854775807 := hm
  have e1 : fieldsR ⟨12, ps, nm, lb, ty, op, it, tx, zz⟩ = ((decide (0 ≤ ps) && !(!bareZ nm lb ty op 0 tx)) && (decide (0 ≤ it) && decide (it ≤ 40000))) := rfl
  have e2 : shp 12 = (⟨0, 0, 0, 0, 40000, 0, 0, 0, 0, 1⟩, true) := rfl
  rw [e1, e2]
  unfold fieldsS bareZ
  clear e1 e2
  rw [Bool.eq_iff_iff]
  try simp only [tl_size]
  try simp only [nil_size]
  try simp only [fits0]
  try simp only [fits1]
  try simp only [fits2]
  grind

theorem fr_13 (ps : Int) (nm lb ty : ByteArray) (op it : Int) (tx : ByteArray) (zz : Int) (hm : it ≤ 9223372036854775807) : fieldsR ⟨13, ps, nm, lb, ty, op, it, tx, zz⟩ = ((shp 13).2 && fieldsS nameS typeS (shp 13).1 ⟨13, ps, nm, lb, ty, op, it, tx, zz⟩) := by
  have hty := type_nil ty
  have hm2 : it ≤ 9223372036854775807 := hm
  have e1 : fieldsR ⟨13, ps, nm, lb, ty, op, it, tx, zz⟩ = ((decide (0 ≤ ps) && !(!bareZ nm lb ty op it tx)) && true) := rfl
  have e2 : shp 13 = (⟨0, 0, 0, 0, 0, 0, 0, 0, 1, 16⟩, true) := rfl
  rw [e1, e2]
  unfold fieldsS bareZ
  clear e1 e2
  rw [Bool.eq_iff_iff]
  try simp only [tl_size]
  try simp only [nil_size]
  try simp only [fits0]
  try simp only [fits1]
  try simp only [fits2]
  grind

theorem fr_14 (ps : Int) (nm lb ty : ByteArray) (op it : Int) (tx : ByteArray) (zz : Int) (hm : it ≤ 9223372036854775807) : fieldsR ⟨14, ps, nm, lb, ty, op, it, tx, zz⟩ = ((shp 14).2 && fieldsS nameS typeS (shp 14).1 ⟨14, ps, nm, lb, ty, op, it, tx, zz⟩) := by
  have hty := type_nil ty
  have hm2 : it ≤ 9223372036854775807 := hm
  have e1 : fieldsR ⟨14, ps, nm, lb, ty, op, it, tx, zz⟩ = ((decide (0 ≤ ps) && !(!bareZ nm lb ty op it tx)) && true) := rfl
  have e2 : shp 14 = (⟨0, 0, 0, 0, 0, 0, 0, 0, 1, 1⟩, true) := rfl
  rw [e1, e2]
  unfold fieldsS bareZ
  clear e1 e2
  rw [Bool.eq_iff_iff]
  try simp only [tl_size]
  try simp only [nil_size]
  try simp only [fits0]
  try simp only [fits1]
  try simp only [fits2]
  grind

theorem fr_15 (ps : Int) (nm lb ty : ByteArray) (op it : Int) (tx : ByteArray) (zz : Int) (hm : it ≤ 9223372036854775807) : fieldsR ⟨15, ps, nm, lb, ty, op, it, tx, zz⟩ = ((shp 15).2 && fieldsS nameS typeS (shp 15).1 ⟨15, ps, nm, lb, ty, op, it, tx, zz⟩) := by
  have hty := type_nil ty
  have hm2 : it ≤ 9223372036854775807 := hm
  have e1 : fieldsR ⟨15, ps, nm, lb, ty, op, it, tx, zz⟩ = ((decide (0 ≤ ps) && !(!bareZ nm lb ty op it tx)) && true) := rfl
  have e2 : shp 15 = (⟨0, 0, 0, 0, 0, 0, 0, 0, 1, 1⟩, true) := rfl
  rw [e1, e2]
  unfold fieldsS bareZ
  clear e1 e2
  rw [Bool.eq_iff_iff]
  try simp only [tl_size]
  try simp only [nil_size]
  try simp only [fits0]
  try simp only [fits1]
  try simp only [fits2]
  grind

theorem fr_16 (ps : Int) (nm lb ty : ByteArray) (op it : Int) (tx : ByteArray) (zz : Int) (hm : it ≤ 9223372036854775807) : fieldsR ⟨16, ps, nm, lb, ty, op, it, tx, zz⟩ = ((shp 16).2 && fieldsS nameS typeS (shp 16).1 ⟨16, ps, nm, lb, ty, op, it, tx, zz⟩) := by
  have hty := type_nil ty
  have hm2 : it ≤ 9223372036854775807 := hm
  have e1 : fieldsR ⟨16, ps, nm, lb, ty, op, it, tx, zz⟩ = ((decide (0 ≤ ps) && !(!bareZ ⟨#[]⟩ lb ty op 0 tx)) && ((decide (1 ≤ it) && decide (it ≤ 40000)) && ((nm.toList == []) || (decide (0 < nm.size) && nameS nm)))) := rfl
  have e2 : shp 16 = (⟨0, 1, 0, 1, 40000, 0, 0, 0, 0, 0⟩, true) := rfl
  rw [e1, e2]
  unfold fieldsS bareZ
  clear e1 e2
  rw [Bool.eq_iff_iff]
  try simp only [tl_size]
  try simp only [nil_size]
  try simp only [fits0]
  try simp only [fits1]
  try simp only [fits2]
  grind

theorem fr_20 (ps : Int) (nm lb ty : ByteArray) (op it : Int) (tx : ByteArray) (zz : Int) (hm : it ≤ 9223372036854775807) : fieldsR ⟨20, ps, nm, lb, ty, op, it, tx, zz⟩ = ((shp 20).2 && fieldsS nameS typeS (shp 20).1 ⟨20, ps, nm, lb, ty, op, it, tx, zz⟩) := by
  have hty := type_nil ty
  have hm2 : it ≤ 9223372036854775807 := hm
  have e1 : fieldsR ⟨20, ps, nm, lb, ty, op, it, tx, zz⟩ = ((decide (0 ≤ ps) && !(!bareZ nm lb ty op 0 tx)) && decide (0 ≤ it)) := rfl
  have e2 : shp 20 = (⟨0, 0, 0, 0, 9223372036854775807, 0, 0, 0, 0, 0⟩, true) := rfl
  rw [e1, e2]
  unfold fieldsS bareZ
  clear e1 e2
  rw [Bool.eq_iff_iff]
  try simp only [tl_size]
  try simp only [nil_size]
  try simp only [fits0]
  try simp only [fits1]
  try simp only [fits2]
  grind

theorem fr_21 (ps : Int) (nm lb ty : ByteArray) (op it : Int) (tx : ByteArray) (zz : Int) (hm : it ≤ 9223372036854775807) : fieldsR ⟨21, ps, nm, lb, ty, op, it, tx, zz⟩ = ((shp 21).2 && fieldsS nameS typeS (shp 21).1 ⟨21, ps, nm, lb, ty, op, it, tx, zz⟩) := by
  have hty := type_nil ty
  have hm2 : it ≤ 9223372036854775807 := hm
  have e1 : fieldsR ⟨21, ps, nm, lb, ty, op, it, tx, zz⟩ = ((decide (0 ≤ ps) && !(!bareZ nm lb ty op 0 tx)) && ((it == 0) || (it == 1))) := rfl
  have e2 : shp 21 = (⟨0, 0, 0, 0, 1, 0, 0, 0, 0, 0⟩, true) := rfl
  rw [e1, e2]
  unfold fieldsS bareZ
  clear e1 e2
  rw [Bool.eq_iff_iff]
  try simp only [tl_size]
  try simp only [nil_size]
  try simp only [fits0]
  try simp only [fits1]
  try simp only [fits2]
  grind

theorem fr_22 (ps : Int) (nm lb ty : ByteArray) (op it : Int) (tx : ByteArray) (zz : Int) (hm : it ≤ 9223372036854775807) : fieldsR ⟨22, ps, nm, lb, ty, op, it, tx, zz⟩ = ((shp 22).2 && fieldsS nameS typeS (shp 22).1 ⟨22, ps, nm, lb, ty, op, it, tx, zz⟩) := by
  have hty := type_nil ty
  have hm2 : it ≤ 9223372036854775807 := hm
  have e1 : fieldsR ⟨22, ps, nm, lb, ty, op, it, tx, zz⟩ = ((decide (0 ≤ ps) && !(!bareZ nm lb ty op it ⟨#[]⟩)) && decide ((tx.size : Int) ≤ 200)) := rfl
  have e2 : shp 22 = (⟨0, 0, 0, 0, 0, 0, 0, 200, 0, 0⟩, true) := rfl
  rw [e1, e2]
  unfold fieldsS bareZ
  clear e1 e2
  rw [Bool.eq_iff_iff]
  try simp only [tl_size]
  try simp only [nil_size]
  try simp only [fits0]
  try simp only [fits1]
  try simp only [fits2]
  grind

theorem fr_23 (ps : Int) (nm lb ty : ByteArray) (op it : Int) (tx : ByteArray) (zz : Int) (hm : it ≤ 9223372036854775807) : fieldsR ⟨23, ps, nm, lb, ty, op, it, tx, zz⟩ = ((shp 23).2 && fieldsS nameS typeS (shp 23).1 ⟨23, ps, nm, lb, ty, op, it, tx, zz⟩) := by
  have hty := type_nil ty
  have hm2 : it ≤ 9223372036854775807 := hm
  have e1 : fieldsR ⟨23, ps, nm, lb, ty, op, it, tx, zz⟩ = ((decide (0 ≤ ps) && !(!bareZ ⟨#[]⟩ lb ty op it tx)) && (decide (0 < nm.size) && nameS nm)) := rfl
  have e2 : shp 23 = (⟨0, 2, 0, 0, 0, 0, 0, 0, 0, 0⟩, true) := rfl
  rw [e1, e2]
  unfold fieldsS bareZ
  clear e1 e2
  rw [Bool.eq_iff_iff]
  try simp only [tl_size]
  try simp only [nil_size]
  try simp only [fits0]
  try simp only [fits1]
  try simp only [fits2]
  grind

theorem fr_24 (ps : Int) (nm lb ty : ByteArray) (op it : Int) (tx : ByteArray) (zz : Int) (hm : it ≤ 9223372036854775807) : fieldsR ⟨24, ps, nm, lb, ty, op, it, tx, zz⟩ = ((shp 24).2 && fieldsS nameS typeS (shp 24).1 ⟨24, ps, nm, lb, ty, op, it, tx, zz⟩) := by
  have hty := type_nil ty
  have hm2 : it ≤ 9223372036854775807 := hm
  have e1 : fieldsR ⟨24, ps, nm, lb, ty, op, it, tx, zz⟩ = ((decide (0 ≤ ps) && !(!bareZ nm lb ty op it tx)) && true) := rfl
  have e2 : shp 24 = (⟨0, 0, 0, 0, 0, 0, 0, 0, 2, 2⟩, true) := rfl
  rw [e1, e2]
  unfold fieldsS bareZ
  clear e1 e2
  rw [Bool.eq_iff_iff]
  try simp only [tl_size]
  try simp only [nil_size]
  try simp only [fits0]
  try simp only [fits1]
  try simp only [fits2]
  grind

theorem fr_25 (ps : Int) (nm lb ty : ByteArray) (op it : Int) (tx : ByteArray) (zz : Int) (hm : it ≤ 9223372036854775807) : fieldsR ⟨25, ps, nm, lb, ty, op, it, tx, zz⟩ = ((shp 25).2 && fieldsS nameS typeS (shp 25).1 ⟨25, ps, nm, lb, ty, op, it, tx, zz⟩) := by
  have hty := type_nil ty
  have hm2 : it ≤ 9223372036854775807 := hm
  have e1 : fieldsR ⟨25, ps, nm, lb, ty, op, it, tx, zz⟩ = ((decide (0 ≤ ps) && !(!bareZ ⟨#[]⟩ lb ty op it tx)) && (decide (0 < nm.size) && nameS nm)) := rfl
  have e2 : shp 25 = (⟨0, 2, 0, 0, 0, 0, 0, 0, 0, 9223372036854775807⟩, true) := rfl
  rw [e1, e2]
  unfold fieldsS bareZ
  clear e1 e2
  rw [Bool.eq_iff_iff]
  try simp only [tl_size]
  try simp only [nil_size]
  try simp only [fits0]
  try simp only [fits1]
  try simp only [fits2]
  grind

theorem fr_26 (ps : Int) (nm lb ty : ByteArray) (op it : Int) (tx : ByteArray) (zz : Int) (hm : it ≤ 9223372036854775807) : fieldsR ⟨26, ps, nm, lb, ty, op, it, tx, zz⟩ = ((shp 26).2 && fieldsS nameS typeS (shp 26).1 ⟨26, ps, nm, lb, ty, op, it, tx, zz⟩) := by
  have hty := type_nil ty
  have hm2 : it ≤ 9223372036854775807 := hm
  have e1 : fieldsR ⟨26, ps, nm, lb, ty, op, it, tx, zz⟩ = ((decide (0 ≤ ps) && !(!bareZ nm lb ty 0 it tx)) && ((op == 1) || (op == 2))) := rfl
  have e2 : shp 26 = (⟨0, 0, 0, 0, 0, 1, 2, 0, 1, 1⟩, true) := rfl
  rw [e1, e2]
  unfold fieldsS bareZ
  clear e1 e2
  rw [Bool.eq_iff_iff]
  try simp only [tl_size]
  try simp only [nil_size]
  try simp only [fits0]
  try simp only [fits1]
  try simp only [fits2]
  grind

theorem fr_27 (ps : Int) (nm lb ty : ByteArray) (op it : Int) (tx : ByteArray) (zz : Int) (hm : it ≤ 9223372036854775807) : fieldsR ⟨27, ps, nm, lb, ty, op, it, tx, zz⟩ = ((shp 27).2 && fieldsS nameS typeS (shp 27).1 ⟨27, ps, nm, lb, ty, op, it, tx, zz⟩) := by
  have hty := type_nil ty
  have hm2 : it ≤ 9223372036854775807 := hm
  have e1 : fieldsR ⟨27, ps, nm, lb, ty, op, it, tx, zz⟩ = ((decide (0 ≤ ps) && !(!bareZ nm lb ty 0 it tx)) && (decide (3 ≤ op) && decide (op ≤ 15))) := rfl
  have e2 : shp 27 = (⟨0, 0, 0, 0, 0, 3, 15, 0, 2, 2⟩, true) := rfl
  rw [e1, e2]
  unfold fieldsS bareZ
  clear e1 e2
  rw [Bool.eq_iff_iff]
  try simp only [tl_size]
  try simp only [nil_size]
  try simp only [fits0]
  try simp only [fits1]
  try simp only [fits2]
  grind

theorem fr_28 (ps : Int) (nm lb ty : ByteArray) (op it : Int) (tx : ByteArray) (zz : Int) (hm : it ≤ 9223372036854775807) : fieldsR ⟨28, ps, nm, lb, ty, op, it, tx, zz⟩ = ((shp 28).2 && fieldsS nameS typeS (shp 28).1 ⟨28, ps, nm, lb, ty, op, it, tx, zz⟩) := by
  have hty := type_nil ty
  have hm2 : it ≤ 9223372036854775807 := hm
  have e1 : fieldsR ⟨28, ps, nm, lb, ty, op, it, tx, zz⟩ = ((decide (0 ≤ ps) && !(!bareZ nm lb ⟨#[]⟩ op it tx)) && typeS ty) := rfl
  have e2 : shp 28 = (⟨0, 0, 2, 0, 0, 0, 0, 0, 1, 1⟩, true) := rfl
  rw [e1, e2]
  unfold fieldsS bareZ
  clear e1 e2
  rw [Bool.eq_iff_iff]
  try simp only [tl_size]
  try simp only [nil_size]
  try simp only [fits0]
  try simp only [fits1]
  try simp only [fits2]
  grind

theorem fr_29 (ps : Int) (nm lb ty : ByteArray) (op it : Int) (tx : ByteArray) (zz : Int) (hm : it ≤ 9223372036854775807) : fieldsR ⟨29, ps, nm, lb, ty, op, it, tx, zz⟩ = ((shp 29).2 && fieldsS nameS typeS (shp 29).1 ⟨29, ps, nm, lb, ty, op, it, tx, zz⟩) := by
  have hty := type_nil ty
  have hm2 : it ≤ 9223372036854775807 := hm
  have e1 : fieldsR ⟨29, ps, nm, lb, ty, op, it, tx, zz⟩ = ((decide (0 ≤ ps) && !(!bareZ nm lb ty op it tx)) && true) := rfl
  have e2 : shp 29 = (⟨0, 0, 0, 0, 0, 0, 0, 0, 1, 1⟩, true) := rfl
  rw [e1, e2]
  unfold fieldsS bareZ
  clear e1 e2
  rw [Bool.eq_iff_iff]
  try simp only [tl_size]
  try simp only [nil_size]
  try simp only [fits0]
  try simp only [fits1]
  try simp only [fits2]
  grind

theorem fr_30 (ps : Int) (nm lb ty : ByteArray) (op it : Int) (tx : ByteArray) (zz : Int) (hm : it ≤ 9223372036854775807) : fieldsR ⟨30, ps, nm, lb, ty, op, it, tx, zz⟩ = ((shp 30).2 && fieldsS nameS typeS (shp 30).1 ⟨30, ps, nm, lb, ty, op, it, tx, zz⟩) := by
  have hty := type_nil ty
  have hm2 : it ≤ 9223372036854775807 := hm
  have e1 : fieldsR ⟨30, ps, nm, lb, ty, op, it, tx, zz⟩ = ((decide (0 ≤ ps) && !(!bareZ nm lb ty op it tx)) && true) := rfl
  have e2 : shp 30 = (⟨0, 0, 0, 0, 0, 0, 0, 0, 1, 1⟩, true) := rfl
  rw [e1, e2]
  unfold fieldsS bareZ
  clear e1 e2
  rw [Bool.eq_iff_iff]
  try simp only [tl_size]
  try simp only [nil_size]
  try simp only [fits0]
  try simp only [fits1]
  try simp only [fits2]
  grind

theorem fr_none (q ps : Int) (nm lb ty : ByteArray) (op it : Int) (tx : ByteArray) (zz : Int) (h : ∀ k ∈ ([1, 2, 3, 4, 5, 6, 7, 8, 9, 10, 11, 12, 13, 14, 15, 16, 20, 21, 22, 23, 24, 25, 26, 27, 28, 29, 30] : List Int), q ≠ k) : fieldsR ⟨q, ps, nm, lb, ty, op, it, tx, zz⟩ = false ∧ (shp q).2 = false := by
  simp only [List.mem_cons, List.not_mem_nil, or_false, forall_eq_or_imp, forall_eq, ne_eq] at h
  obtain ⟨h1, h2, h3, h4, h5, h6, h7, h8, h9, h10, h11, h12, h13, h14, h15, h16, h20, h21, h22, h23, h24, h25, h26, h27, h28, h29, h30⟩ := h
  constructor
  · unfold fieldsR
    rw [if_neg h1, if_neg h2, if_neg h3, if_neg h4, if_neg h5, if_neg h6, if_neg h7, if_neg h8, if_neg h9, if_neg h10, if_neg h11, if_neg h12, if_neg h13, if_neg h14, if_neg h15, if_neg h16, if_neg h20, if_neg h21, if_neg h22, if_neg h23, if_neg h24, if_neg h25, if_neg h26, if_neg h27, if_neg h28, if_neg h29, if_neg h30, Bool.and_false]
  · unfold shp
    rw [if_neg (by omega), if_neg h2, if_neg h3, if_neg h5, if_neg (by omega), if_neg h7, if_neg h8, if_neg h9, if_neg (by omega), if_neg h12, if_neg h13, if_neg (by omega), if_neg h16, if_neg h20, if_neg h21, if_neg h22, if_neg h23, if_neg h25, if_neg h26, if_neg h27, if_neg h28]

theorem fields_eq (x : Nd) (hm : x.int ≤ 9223372036854775807) : fieldsR x = ((shp x.kind).2 && fieldsS nameS typeS (shp x.kind).1 x) := by
  obtain ⟨q, ps, nm, lb, ty, op, it, tx, zz⟩ := x
  by_cases h1 : q = 1
  · subst h1
    exact fr_1 ps nm lb ty op it tx zz hm
  by_cases h2 : q = 2
  · subst h2
    exact fr_2 ps nm lb ty op it tx zz hm
  by_cases h3 : q = 3
  · subst h3
    exact fr_3 ps nm lb ty op it tx zz hm
  by_cases h4 : q = 4
  · subst h4
    exact fr_4 ps nm lb ty op it tx zz hm
  by_cases h5 : q = 5
  · subst h5
    exact fr_5 ps nm lb ty op it tx zz hm
  by_cases h6 : q = 6
  · subst h6
    exact fr_6 ps nm lb ty op it tx zz hm
  by_cases h7 : q = 7
  · subst h7
    exact fr_7 ps nm lb ty op it tx zz hm
  by_cases h8 : q = 8
  · subst h8
    exact fr_8 ps nm lb ty op it tx zz hm
  by_cases h9 : q = 9
  · subst h9
    exact fr_9 ps nm lb ty op it tx zz hm
  by_cases h10 : q = 10
  · subst h10
    exact fr_10 ps nm lb ty op it tx zz hm
  by_cases h11 : q = 11
  · subst h11
    exact fr_11 ps nm lb ty op it tx zz hm
  by_cases h12 : q = 12
  · subst h12
    exact fr_12 ps nm lb ty op it tx zz hm
  by_cases h13 : q = 13
  · subst h13
    exact fr_13 ps nm lb ty op it tx zz hm
  by_cases h14 : q = 14
  · subst h14
    exact fr_14 ps nm lb ty op it tx zz hm
  by_cases h15 : q = 15
  · subst h15
    exact fr_15 ps nm lb ty op it tx zz hm
  by_cases h16 : q = 16
  · subst h16
    exact fr_16 ps nm lb ty op it tx zz hm
  by_cases h20 : q = 20
  · subst h20
    exact fr_20 ps nm lb ty op it tx zz hm
  by_cases h21 : q = 21
  · subst h21
    exact fr_21 ps nm lb ty op it tx zz hm
  by_cases h22 : q = 22
  · subst h22
    exact fr_22 ps nm lb ty op it tx zz hm
  by_cases h23 : q = 23
  · subst h23
    exact fr_23 ps nm lb ty op it tx zz hm
  by_cases h24 : q = 24
  · subst h24
    exact fr_24 ps nm lb ty op it tx zz hm
  by_cases h25 : q = 25
  · subst h25
    exact fr_25 ps nm lb ty op it tx zz hm
  by_cases h26 : q = 26
  · subst h26
    exact fr_26 ps nm lb ty op it tx zz hm
  by_cases h27 : q = 27
  · subst h27
    exact fr_27 ps nm lb ty op it tx zz hm
  by_cases h28 : q = 28
  · subst h28
    exact fr_28 ps nm lb ty op it tx zz hm
  by_cases h29 : q = 29
  · subst h29
    exact fr_29 ps nm lb ty op it tx zz hm
  by_cases h30 : q = 30
  · subst h30
    exact fr_30 ps nm lb ty op it tx zz hm
  obtain ⟨e1, e2⟩ := fr_none q ps nm lb ty op it tx zz (by
    intro k hk
    simp only [List.mem_cons, List.not_mem_nil, or_false] at hk
    rcases hk with rfl | rfl | rfl | rfl | rfl | rfl | rfl | rfl | rfl | rfl | rfl | rfl | rfl | rfl | rfl | rfl | rfl | rfl | rfl | rfl | rfl | rfl | rfl | rfl | rfl | rfl | rfl <;> assumption)
  rw [e1]
  show false = ((shp q).2 && _)
  rw [e2]
  rfl
end Go.Proofs.YtlocaalipjjnpaaDoor

namespace Go.Proofs.YtlocaalipjjnpaaDoor

def mayAll (L : List Nd) (n : Nat) : Nat → List Nat → Bool
  | _, [] => true
  | c, x :: r => may L n x c && mayAll L n (c + 1) r

theorem kidw_eq (L : List Nd) (n e : Nat) : ∀ (f k c : Nat), sizesS L k e = true → e - k ≤ f → kidw L n e f k c = if mayAll L n c (between L k e) = true then some (c + (between L k e).length) else none
  | 0, k, c, _, h => by
    rw [between_end L k e (by omega)]
    rfl
  | f + 1, k, c, hs, h => by
    by_cases hle : e ≤ k
    · rw [between_end L k e hle]
      unfold kidw
      rw [if_pos hle]
      rfl
    · obtain ⟨⟨a1, a2, a3⟩, hb⟩ := between_go L k e (by omega) hs
      unfold kidw
      rw [if_neg hle, hb]
      cases hm : may L n k c with
      | false =>
        rw [if_pos (.inr (.inr rfl))]
        simp [mayAll, hm]
      | true =>
        rw [if_neg (by simp; omega), kidw_eq L n e f (k + (sz L k).toNat) (c + 1) a3 (by omega)]
        simp only [mayAll, hm, Bool.true_and, List.length_cons]
        split
        · rw [show c + 1 + (between L (k + (sz L k).toNat) e).length = c + ((between L (k + (sz L k).toNat) e).length + 1) by omega]
        · rfl

theorem kidsS_eq (L : List Nd) (s : Shp) (n : Nat) (hg : Good L n) (hs : sizesS L (n + 1) (endOf L n) = true) : kidsS L s n = (mayAll L n 0 (kidsB L n) && (decide (s.fewest ≤ ((kidsB L n).length : Int)) && decide (((kidsB L n).length : Int) ≤ s.most))) := by
  unfold kidsS
  have h1 := hg.1
  have h2 := hg.2
  rw [kidw_eq L n (endOf L n) (L.length + 1) (n + 1) 0 hs (by unfold endOf; omega)]
  cases mayAll L n 0 (between L (n + 1) (endOf L n)) with
  | false => rfl
  | true => simp

theorem mayAll_all {L : List Nd} {n : Nat} {g : Nat → Bool} (h : ∀ x c, may L n x c = g x) : ∀ (K : List Nat) (c : Nat), mayAll L n c K = K.all g
  | [], _ => rfl
  | x :: r, c => by
    show (may L n x c && mayAll L n (c + 1) r) = _
    rw [h, mayAll_all h r (c + 1)]
    rfl

theorem mayAll_fn (L : List Nd) (n : Nat) (hp : (nd L n).kind = 2) (hg : Good L n) : ∀ (f k c : Nat), sizesS L k (endOf L n) = true → endOf L n - k ≤ f → k < endOf L n →
    mayAll L n c (between L k (endOf L n)) = (((between L k (endOf L n)).dropLast.all fun x => kd L x == 3) && (kd L ((between L k (endOf L n)).getLastD 0) == 4))
  | 0, k, c, _, h, h' => by omega
  | f + 1, k, c, hs, h, h' => by
    obtain ⟨⟨a1, a2, a3⟩, hb⟩ := between_go L k (endOf L n) h' hs
    have h1 := hg.1
    have h2 := hg.2
    have he : ((endOf L n : Nat) : Int) = n + sz L n := by unfold endOf; omega
    have hm : may L n k c = if (k : Int) + sz L k < (n : Int) + sz L n then kd L k == 3 else kd L k == 4 := by
      unfold may
      rw [hp]
      rfl
    rw [hb]
    by_cases hlast : k + (sz L k).toNat < endOf L n
    · have ih := mayAll_fn L n hp hg f (k + (sz L k).toNat) (c + 1) a3 (by omega) hlast
      obtain ⟨_, hb2⟩ := between_go L (k + (sz L k).toNat) (endOf L n) hlast a3
      show (may L n k c && mayAll L n (c + 1) _) = _
      rw [ih, hm, if_pos (by omega), hb2]
      simp [Bool.and_assoc]
    · rw [between_end L (k + (sz L k).toNat) (endOf L n) (by omega)]
      show (may L n k c && true) = _
      rw [hm, if_neg (by omega)]
      simp

theorem fn_shape (L : List Nd) (K : List Nat) (h : 0 < K.length) : funcS L K = ((decide ((1 : Int) ≤ (K.length : Int)) && decide ((K.length : Int) ≤ 9)) && ((K.dropLast.all fun x => kd L x == 3) && (kd L (K.getLastD 0) == 4))) := by
  unfold funcS
  have e1 : K.getD (K.length - 1) 0 = K.getLastD 0 := by
    rw [List.getD_eq_getElem?_getD, List.getLastD_eq_getLast?, List.getLast?_eq_getElem?]
  have e2 : K.take (K.length - 1) = K.dropLast := (List.dropLast_eq_take ..).symm
  rw [e1, e2]
  have e3 : decide (1 ≤ K.length) = decide ((1 : Int) ≤ (K.length : Int)) := by simp; omega
  have e4 : decide (K.length ≤ 9) = decide ((K.length : Int) ≤ 9) := by by_cases a : K.length ≤ 9 <;> simp [a] <;> omega
  rw [e3, e4]
  cases decide ((1 : Int) ≤ (K.length : Int)) <;> cases decide ((K.length : Int) ≤ 9) <;> cases (kd L (K.getLastD 0) == 4) <;> simp

theorem len_three {K : List Nat} (h : K.length = 3) : ∃ x y z, K = [x, y, z] := by
  match K, h with
  | [x, y, z], _ => exact ⟨x, y, z, rfl⟩
end Go.Proofs.YtlocaalipjjnpaaDoor

namespace Go.Proofs.YtlocaalipjjnpaaDoor

theorem se_1 (L : List Nd) (n : Nat) (K : List Nat) (hp : (nd L n).kind = 1) (hl : K.length ≤ 1353245080300) : (mayAll L n 0 K && (decide ((0 : Int) ≤ (K.length : Int)) && decide ((K.length : Int) ≤ 9223372036854775807))) = shapeR L K 1 := by
  have hl2 : K.length ≤ 1353245080300 := hl
  have hmay : ∀ x c, may L n x c = ((nd L x).kind == 2) := fun x c => by unfold may; rw [hp]; simp
  have e : shapeR L K 1 = (K.all fun x => (nd L x).kind == 2) := rfl
  rw [mayAll_all hmay, e]
  generalize (K.all fun x => (nd L x).kind == 2) = r
  have h1 : decide ((0 : Int) ≤ (K.length : Int)) = true := by simp
  have h2 : decide ((K.length : Int) ≤ 9223372036854775807) = true := by simp; omega
  rw [h1, h2]
  cases r <;> rfl

theorem se_4 (L : List Nd) (n : Nat) (K : List Nat) (hp : (nd L n).kind = 4) (hl : K.length ≤ 1353245080300) : (mayAll L n 0 K && (decide ((0 : Int) ≤ (K.length : Int)) && decide ((K.length : Int) ≤ 9223372036854775807))) = shapeR L K 4 := by
  have hl2 : K.length ≤ 1353245080300 := hl
  have hmay : ∀ x c, may L n x c = (isStmt (nd L x).kind) := fun x c => by unfold may; rw [hp]; simp
  have e : shapeR L K 4 = (K.all fun x => isStmt (nd L x).kind) := rfl
  rw [mayAll_all hmay, e]
  generalize (K.all fun x => isStmt (nd L x).kind) = r
  have h1 : decide ((0 : Int) ≤ (K.length : Int)) = true := by simp
  have h2 : decide ((K.length : Int) ≤ 9223372036854775807) = true := by simp; omega
  rw [h1, h2]
  cases r <;> rfl

theorem se_25 (L : List Nd) (n : Nat) (K : List Nat) (hp : (nd L n).kind = 25) (hl : K.length ≤ 1353245080300) : (mayAll L n 0 K && (decide ((0 : Int) ≤ (K.length : Int)) && decide ((K.length : Int) ≤ 9223372036854775807))) = shapeR L K 25 := by
  have hl2 : K.length ≤ 1353245080300 := hl
  have hmay : ∀ x c, may L n x c = (isExpr (nd L x).kind) := fun x c => by unfold may; rw [hp]; simp
  have e : shapeR L K 25 = (exprsS L K) := rfl
  rw [mayAll_all hmay, e]
  unfold exprsS
  generalize (K.all fun x => isExpr (nd L x).kind) = r
  have h1 : decide ((0 : Int) ≤ (K.length : Int)) = true := by simp
  have h2 : decide ((K.length : Int) ≤ 9223372036854775807) = true := by simp; omega
  rw [h1, h2]
  cases r <;> rfl

theorem se_12 (L : List Nd) (n : Nat) (K : List Nat) (hp : (nd L n).kind = 12) (hl : K.length ≤ 1353245080300) : (mayAll L n 0 K && (decide ((0 : Int) ≤ (K.length : Int)) && decide ((K.length : Int) ≤ 1))) = shapeR L K 12 := by
  have hl2 : K.length ≤ 1353245080300 := hl
  have hmay : ∀ x c, may L n x c = (isExpr (nd L x).kind) := fun x c => by unfold may; rw [hp]; simp
  have e : shapeR L K 12 = (decide (K.length ≤ 1) && exprsS L K) := rfl
  rw [mayAll_all hmay, e]
  unfold exprsS
  generalize (K.all fun x => isExpr (nd L x).kind) = r
  grind

theorem se_13 (L : List Nd) (n : Nat) (K : List Nat) (hp : (nd L n).kind = 13) (hl : K.length ≤ 1353245080300) : (mayAll L n 0 K && (decide ((1 : Int) ≤ (K.length : Int)) && decide ((K.length : Int) ≤ 16))) = shapeR L K 13 := by
  have hl2 : K.length ≤ 1353245080300 := hl
  have hmay : ∀ x c, may L n x c = (isExpr (nd L x).kind) := fun x c => by unfold may; rw [hp]; simp
  have e : shapeR L K 13 = ((decide (1 ≤ K.length) && decide (K.length ≤ 16)) && exprsS L K) := rfl
  rw [mayAll_all hmay, e]
  unfold exprsS
  generalize (K.all fun x => isExpr (nd L x).kind) = r
  grind

theorem se_24 (L : List Nd) (n : Nat) (K : List Nat) (hp : (nd L n).kind = 24) (hl : K.length ≤ 1353245080300) : (mayAll L n 0 K && (decide ((2 : Int) ≤ (K.length : Int)) && decide ((K.length : Int) ≤ 2))) = shapeR L K 24 := by
  have hl2 : K.length ≤ 1353245080300 := hl
  have hmay : ∀ x c, may L n x c = (isExpr (nd L x).kind) := fun x c => by unfold may; rw [hp]; simp
  have e : shapeR L K 24 = (decide (K.length = 2) && exprsS L K) := rfl
  rw [mayAll_all hmay, e]
  unfold exprsS
  generalize (K.all fun x => isExpr (nd L x).kind) = r
  grind

theorem se_27 (L : List Nd) (n : Nat) (K : List Nat) (hp : (nd L n).kind = 27) (hl : K.length ≤ 1353245080300) : (mayAll L n 0 K && (decide ((2 : Int) ≤ (K.length : Int)) && decide ((K.length : Int) ≤ 2))) = shapeR L K 27 := by
  have hl2 : K.length ≤ 1353245080300 := hl
  have hmay : ∀ x c, may L n x c = (isExpr (nd L x).kind) := fun x c => by unfold may; rw [hp]; simp
  have e : shapeR L K 27 = (decide (K.length = 2) && exprsS L K) := rfl
  rw [mayAll_all hmay, e]
  unfold exprsS
  generalize (K.all fun x => isExpr (nd L x).kind) = r
  grind

theorem se_5 (L : List Nd) (n : Nat) (K : List Nat) (hp : (nd L n).kind = 5) (hl : K.length ≤ 1353245080300) : (mayAll L n 0 K && (decide ((1 : Int) ≤ (K.length : Int)) && decide ((K.length : Int) ≤ 1))) = shapeR L K 5 := by
  have hl2 : K.length ≤ 1353245080300 := hl
  have hmay : ∀ x c, may L n x c = (isExpr (nd L x).kind) := fun x c => by unfold may; rw [hp]; simp
  have e : shapeR L K 5 = (decide (K.length = 1) && exprsS L K) := rfl
  rw [mayAll_all hmay, e]
  unfold exprsS
  generalize (K.all fun x => isExpr (nd L x).kind) = r
  grind

theorem se_26 (L : List Nd) (n : Nat) (K : List Nat) (hp : (nd L n).kind = 26) (hl : K.length ≤ 1353245080300) : (mayAll L n 0 K && (decide ((1 : Int) ≤ (K.length : Int)) && decide ((K.length : Int) ≤ 1))) = shapeR L K 26 := by
  have hl2 : K.length ≤ 1353245080300 := hl
  have hmay : ∀ x c, may L n x c = (isExpr (nd L x).kind) := fun x c => by unfold may; rw [hp]; simp
  have e : shapeR L K 26 = (decide (K.length = 1) && exprsS L K) := rfl
  rw [mayAll_all hmay, e]
  unfold exprsS
  generalize (K.all fun x => isExpr (nd L x).kind) = r
  grind

theorem se_28 (L : List Nd) (n : Nat) (K : List Nat) (hp : (nd L n).kind = 28) (hl : K.length ≤ 1353245080300) : (mayAll L n 0 K && (decide ((1 : Int) ≤ (K.length : Int)) && decide ((K.length : Int) ≤ 1))) = shapeR L K 28 := by
  have hl2 : K.length ≤ 1353245080300 := hl
  have hmay : ∀ x c, may L n x c = (isExpr (nd L x).kind) := fun x c => by unfold may; rw [hp]; simp
  have e : shapeR L K 28 = (decide (K.length = 1) && exprsS L K) := rfl
  rw [mayAll_all hmay, e]
  unfold exprsS
  generalize (K.all fun x => isExpr (nd L x).kind) = r
  grind

theorem se_29 (L : List Nd) (n : Nat) (K : List Nat) (hp : (nd L n).kind = 29) (hl : K.length ≤ 1353245080300) : (mayAll L n 0 K && (decide ((1 : Int) ≤ (K.length : Int)) && decide ((K.length : Int) ≤ 1))) = shapeR L K 29 := by
  have hl2 : K.length ≤ 1353245080300 := hl
  have hmay : ∀ x c, may L n x c = (isExpr (nd L x).kind) := fun x c => by unfold may; rw [hp]; simp
  have e : shapeR L K 29 = (decide (K.length = 1) && exprsS L K) := rfl
  rw [mayAll_all hmay, e]
  unfold exprsS
  generalize (K.all fun x => isExpr (nd L x).kind) = r
  grind

theorem se_30 (L : List Nd) (n : Nat) (K : List Nat) (hp : (nd L n).kind = 30) (hl : K.length ≤ 1353245080300) : (mayAll L n 0 K && (decide ((1 : Int) ≤ (K.length : Int)) && decide ((K.length : Int) ≤ 1))) = shapeR L K 30 := by
  have hl2 : K.length ≤ 1353245080300 := hl
  have hmay : ∀ x c, may L n x c = (isExpr (nd L x).kind) := fun x c => by unfold may; rw [hp]; simp
  have e : shapeR L K 30 = (decide (K.length = 1) && exprsS L K) := rfl
  rw [mayAll_all hmay, e]
  unfold exprsS
  generalize (K.all fun x => isExpr (nd L x).kind) = r
  grind

theorem se_3 (L : List Nd) (n : Nat) (K : List Nat) (hp : (nd L n).kind = 3) (hl : K.length ≤ 1353245080300) : (mayAll L n 0 K && (decide ((0 : Int) ≤ (K.length : Int)) && decide ((K.length : Int) ≤ 0))) = shapeR L K 3 := by
  have hl2 : K.length ≤ 1353245080300 := hl
  have h2 : (nd L n).kind = 3 := hp
  have e : shapeR L K 3 = decide (K.length = 0) := rfl
  rw [e]
  clear h2
  cases K with
  | nil => rfl
  | cons a r => simp

theorem se_10 (L : List Nd) (n : Nat) (K : List Nat) (hp : (nd L n).kind = 10) (hl : K.length ≤ 1353245080300) : (mayAll L n 0 K && (decide ((0 : Int) ≤ (K.length : Int)) && decide ((K.length : Int) ≤ 0))) = shapeR L K 10 := by
  have hl2 : K.length ≤ 1353245080300 := hl
  have h2 : (nd L n).kind = 10 := hp
  have e : shapeR L K 10 = decide (K.length = 0) := rfl
  rw [e]
  clear h2
  cases K with
  | nil => rfl
  | cons a r => simp

theorem se_11 (L : List Nd) (n : Nat) (K : List Nat) (hp : (nd L n).kind = 11) (hl : K.length ≤ 1353245080300) : (mayAll L n 0 K && (decide ((0 : Int) ≤ (K.length : Int)) && decide ((K.length : Int) ≤ 0))) = shapeR L K 11 := by
  have hl2 : K.length ≤ 1353245080300 := hl
  have h2 : (nd L n).kind = 11 := hp
  have e : shapeR L K 11 = decide (K.length = 0) := rfl
  rw [e]
  clear h2
  cases K with
  | nil => rfl
  | cons a r => simp

theorem se_16 (L : List Nd) (n : Nat) (K : List Nat) (hp : (nd L n).kind = 16) (hl : K.length ≤ 1353245080300) : (mayAll L n 0 K && (decide ((0 : Int) ≤ (K.length : Int)) && decide ((K.length : Int) ≤ 0))) = shapeR L K 16 := by
  have hl2 : K.length ≤ 1353245080300 := hl
  have h2 : (nd L n).kind = 16 := hp
  have e : shapeR L K 16 = decide (K.length = 0) := rfl
  rw [e]
  clear h2
  cases K with
  | nil => rfl
  | cons a r => simp

theorem se_20 (L : List Nd) (n : Nat) (K : List Nat) (hp : (nd L n).kind = 20) (hl : K.length ≤ 1353245080300) : (mayAll L n 0 K && (decide ((0 : Int) ≤ (K.length : Int)) && decide ((K.length : Int) ≤ 0))) = shapeR L K 20 := by
  have hl2 : K.length ≤ 1353245080300 := hl
  have h2 : (nd L n).kind = 20 := hp
  have e : shapeR L K 20 = decide (K.length = 0) := rfl
  rw [e]
  clear h2
  cases K with
  | nil => rfl
  | cons a r => simp

theorem se_21 (L : List Nd) (n : Nat) (K : List Nat) (hp : (nd L n).kind = 21) (hl : K.length ≤ 1353245080300) : (mayAll L n 0 K && (decide ((0 : Int) ≤ (K.length : Int)) && decide ((K.length : Int) ≤ 0))) = shapeR L K 21 := by
  have hl2 : K.length ≤ 1353245080300 := hl
  have h2 : (nd L n).kind = 21 := hp
  have e : shapeR L K 21 = decide (K.length = 0) := rfl
  rw [e]
  clear h2
  cases K with
  | nil => rfl
  | cons a r => simp

theorem se_22 (L : List Nd) (n : Nat) (K : List Nat) (hp : (nd L n).kind = 22) (hl : K.length ≤ 1353245080300) : (mayAll L n 0 K && (decide ((0 : Int) ≤ (K.length : Int)) && decide ((K.length : Int) ≤ 0))) = shapeR L K 22 := by
  have hl2 : K.length ≤ 1353245080300 := hl
  have h2 : (nd L n).kind = 22 := hp
  have e : shapeR L K 22 = decide (K.length = 0) := rfl
  rw [e]
  clear h2
  cases K with
  | nil => rfl
  | cons a r => simp

theorem se_23 (L : List Nd) (n : Nat) (K : List Nat) (hp : (nd L n).kind = 23) (hl : K.length ≤ 1353245080300) : (mayAll L n 0 K && (decide ((0 : Int) ≤ (K.length : Int)) && decide ((K.length : Int) ≤ 0))) = shapeR L K 23 := by
  have hl2 : K.length ≤ 1353245080300 := hl
  have h2 : (nd L n).kind = 23 := hp
  have e : shapeR L K 23 = decide (K.length = 0) := rfl
  rw [e]
  clear h2
  cases K with
  | nil => rfl
  | cons a r => simp

theorem se_15 (L : List Nd) (n : Nat) (K : List Nat) (hp : (nd L n).kind = 15) (hl : K.length ≤ 1353245080300) : (mayAll L n 0 K && (decide ((1 : Int) ≤ (K.length : Int)) && decide ((K.length : Int) ≤ 1))) = shapeR L K 15 := by
  have hl2 : K.length ≤ 1353245080300 := hl
  have hmay : ∀ x c, may L n x c = ((nd L x).kind == 25) := fun x c => by unfold may; rw [hp]; simp
  have e : shapeR L K 15 = (decide (K.length = 1) && (kd L (K.getD 0 0) == 25)) := rfl
  rw [e]
  by_cases h : K.length = 1
  · obtain ⟨x, rfl⟩ := len_one h
    show ((may L n x 0 && true) && (true && true)) = (true && ((nd L x).kind == 25))
    rw [hmay]
    cases ((nd L x).kind == 25) <;> rfl
  · have h1 : ¬ ((1 : Int) ≤ (K.length : Int) ∧ (K.length : Int) ≤ 1) := by omega
    rw [← Bool.decide_and, decide_eq_false h1, decide_eq_false h]
    simp

theorem se_14 (L : List Nd) (n : Nat) (K : List Nat) (hp : (nd L n).kind = 14) (hl : K.length ≤ 1353245080300) (hpl : ∀ x ∈ K, rplF L L.length x = place L x) : (mayAll L n 0 K && (decide ((1 : Int) ≤ (K.length : Int)) && decide ((K.length : Int) ≤ 1))) = shapeR L K 14 := by
  have hl2 : K.length ≤ 1353245080300 := hl
  have hmay : ∀ x c, may L n x c = place L x := fun x c => by unfold may; rw [hp]; simp
  have e : shapeR L K 14 = (decide (K.length = 1) && rplF L L.length (K.getD 0 0)) := rfl
  rw [e]
  by_cases h : K.length = 1
  · obtain ⟨x, rfl⟩ := len_one h
    have := hpl x (by simp)
    show ((may L n x 0 && true) && (true && true)) = (true && rplF L L.length x)
    rw [hmay, this]
    cases place L x <;> rfl
  · have h1 : ¬ ((1 : Int) ≤ (K.length : Int) ∧ (K.length : Int) ≤ 1) := by omega
    rw [← Bool.decide_and, decide_eq_false h1, decide_eq_false h]
    simp

theorem se_6 (L : List Nd) (n : Nat) (K : List Nat) (hp : (nd L n).kind = 6) (hl : K.length ≤ 1353245080300) (hpl : ∀ x ∈ K, rplF L L.length x = place L x) : (mayAll L n 0 K && (decide ((2 : Int) ≤ (K.length : Int)) && decide ((K.length : Int) ≤ 2))) = shapeR L K 6 := by
  have hl2 : K.length ≤ 1353245080300 := hl
  have m0 : ∀ x, may L n x 0 = place L x := fun x => by unfold may; rw [hp]; simp
  have m1 : ∀ x, may L n x 1 = isExpr (nd L x).kind := fun x => by unfold may; rw [hp]; simp
  have e : shapeR L K 6 = ((decide (K.length = 2) && rplF L L.length (K.getD 0 0)) && exprsS L (K.drop 1)) := rfl
  rw [e]
  by_cases h : K.length = 2
  · obtain ⟨x, y, rfl⟩ := len_two h
    have := hpl x (by simp)
    show ((may L n x 0 && (may L n y 1 && true)) && (true && true)) = ((true && rplF L L.length x) && (isExpr (nd L y).kind && true))
    rw [m0, m1, this]
    cases place L x <;> cases isExpr (nd L y).kind <;> rfl
  · have h1 : ¬ ((2 : Int) ≤ (K.length : Int) ∧ (K.length : Int) ≤ 2) := by omega
    rw [← Bool.decide_and, decide_eq_false h1, decide_eq_false h]
    simp

theorem se_8 (L : List Nd) (n : Nat) (K : List Nat) (hp : (nd L n).kind = 8) (hl : K.length ≤ 1353245080300) : (mayAll L n 0 K && (decide ((2 : Int) ≤ (K.length : Int)) && decide ((K.length : Int) ≤ 2))) = shapeR L K 8 := by
  have hl2 : K.length ≤ 1353245080300 := hl
  have m0 : ∀ x, may L n x 0 = isExpr (nd L x).kind := fun x => by unfold may; rw [hp]; simp
  have m1 : ∀ x, may L n x 1 = ((nd L x).kind == 4) := fun x => by unfold may; rw [hp]; rfl
  have e : shapeR L K 8 = (loopS L K 1) := rfl
  rw [e]
  unfold loopS
  by_cases h : K.length = 2
  · obtain ⟨x, y, rfl⟩ := len_two h
    show ((may L n x 0 && (may L n y 1 && true)) && (true && true)) = ((true && (isExpr (nd L x).kind && true)) && ((nd L y).kind == 4))
    rw [m0, m1]
    cases isExpr (nd L x).kind <;> cases ((nd L y).kind == 4) <;> rfl
  · have h1 : ¬ ((2 : Int) ≤ (K.length : Int) ∧ (K.length : Int) ≤ 2) := by omega
    rw [← Bool.decide_and, decide_eq_false h1, decide_eq_false (show ¬ K.length = 1 + 1 by omega)]
    simp

theorem se_9 (L : List Nd) (n : Nat) (K : List Nat) (hp : (nd L n).kind = 9) (hl : K.length ≤ 1353245080300) : (mayAll L n 0 K && (decide ((3 : Int) ≤ (K.length : Int)) && decide ((K.length : Int) ≤ 3))) = shapeR L K 9 := by
  have hl2 : K.length ≤ 1353245080300 := hl
  have m0 : ∀ x, may L n x 0 = isExpr (nd L x).kind := fun x => by unfold may; rw [hp]; simp
  have m1 : ∀ x, may L n x 1 = isExpr (nd L x).kind := fun x => by unfold may; rw [hp]; simp
  have m2 : ∀ x, may L n x 2 = ((nd L x).kind == 4) := fun x => by unfold may; rw [hp]; rfl
  have e : shapeR L K 9 = (loopS L K 2) := rfl
  rw [e]
  unfold loopS
  by_cases h : K.length = 3
  · obtain ⟨x, y, z, rfl⟩ := len_three h
    show ((may L n x 0 && (may L n y 1 && (may L n z 2 && true))) && (true && true)) = ((true && (isExpr (nd L x).kind && (isExpr (nd L y).kind && true))) && ((nd L z).kind == 4))
    rw [m0, m1, m2]
    cases isExpr (nd L x).kind <;> cases isExpr (nd L y).kind <;> cases ((nd L z).kind == 4) <;> rfl
  · have h1 : ¬ ((3 : Int) ≤ (K.length : Int) ∧ (K.length : Int) ≤ 3) := by omega
    rw [← Bool.decide_and, decide_eq_false h1, decide_eq_false (show ¬ K.length = 2 + 1 by omega)]
    simp

theorem se_7 (L : List Nd) (n : Nat) (K : List Nat) (hp : (nd L n).kind = 7) (hl : K.length ≤ 1353245080300) : (mayAll L n 0 K && (decide ((2 : Int) ≤ (K.length : Int)) && decide ((K.length : Int) ≤ 3))) = shapeR L K 7 := by
  have hl2 : K.length ≤ 1353245080300 := hl
  have m0 : ∀ x, may L n x 0 = isExpr (nd L x).kind := fun x => by unfold may; rw [hp]; simp
  have m1 : ∀ x, may L n x 1 = ((nd L x).kind == 4) := fun x => by
    unfold may
    rw [hp]
    show ((nd L x).kind == 4 || (false && ((nd L x).kind == 7))) = _
    rw [Bool.false_and, Bool.or_false]
  have m2 : ∀ x, may L n x 2 = ((nd L x).kind == 4 || (nd L x).kind == 7) := fun x => by unfold may; rw [hp]; rfl
  have e : shapeR L K 7 = (choiceS L K) := rfl
  rw [e]
  unfold choiceS
  by_cases h3 : K.length = 3
  · obtain ⟨x, y, z, rfl⟩ := len_three h3
    rw [if_pos h3]
    show ((may L n x 0 && (may L n y 1 && (may L n z 2 && true))) && (true && true)) = (((nd L z).kind == 4 || (nd L z).kind == 7) && ((true && (isExpr (nd L x).kind && true)) && ((nd L y).kind == 4)))
    rw [m0, m1, m2]
    cases isExpr (nd L x).kind <;> cases ((nd L y).kind == 4) <;> cases ((nd L z).kind == 4 || (nd L z).kind == 7) <;> rfl
  · rw [if_neg h3]
    unfold loopS
    by_cases h : K.length = 2
    · obtain ⟨x, y, rfl⟩ := len_two h
      show ((may L n x 0 && (may L n y 1 && true)) && (true && true)) = ((true && (isExpr (nd L x).kind && true)) && ((nd L y).kind == 4))
      rw [m0, m1]
      cases isExpr (nd L x).kind <;> cases ((nd L y).kind == 4) <;> rfl
    · have h1 : ¬ ((2 : Int) ≤ (K.length : Int) ∧ (K.length : Int) ≤ 3) := by omega
      rw [← Bool.decide_and, decide_eq_false h1, decide_eq_false (show ¬ K.length = 1 + 1 by omega)]
      simp

end Go.Proofs.YtlocaalipjjnpaaDoor

namespace Go.Proofs.YtlocaalipjjnpaaDoor

theorem rpl_place {L : List Nd} (hg : ∀ m, m < L.length → Good L m) (hbig : ∀ x, x < L.length → kd L x = 24 → 1 < sz L x) : ∀ (f x : Nat), x < L.length → L.length - x ≤ f → rplF L f x = place L x
  | 0, x, h, h' => by omega
  | f + 1, x, h, h' => by
    show (if kd L x = 24 then _ else _) = _
    by_cases h24 : kd L x = 24
    · have hb := hbig x h h24
      have h2 := (hg x h).2
      rw [if_pos h24, place_go L x h h24, rpl_place hg hbig f (x + 1) (by omega) (by omega)]
      simp [hb]
    · rw [if_neg h24, place_stop L x h h24]

theorem fn_len (L : List Nd) (n : Nat) (K : List Nat) (h : K = kidsB L n) (hk : (nd L n).kind = 2) (hg : Good L n) (hs : sizesS L (n + 1) (endOf L n) = true) : (mayAll L n 0 K && (decide ((1 : Int) ≤ (K.length : Int)) && decide ((K.length : Int) ≤ 9))) = shapeR L K 2 := by
  have e : shapeR L K 2 = funcS L K := rfl
  rw [e]
  by_cases hlt : n + 1 < endOf L n
  · have hm := mayAll_fn L n hk hg (endOf L n) (n + 1) 0 hs (by omega) hlt
    obtain ⟨_, hb⟩ := between_go L (n + 1) (endOf L n) hlt hs
    have hpos : 0 < K.length := by
      rw [h]
      show 0 < (between L (n + 1) (endOf L n)).length
      rw [hb]
      simp
    rw [fn_shape L K hpos]
    rw [show between L (n + 1) (endOf L n) = K from h.symm] at hm
    rw [hm]
    cases ((K.dropLast.all fun x => kd L x == 3) && (kd L (K.getLastD 0) == 4)) <;> cases (decide ((1 : Int) ≤ (K.length : Int)) && decide ((K.length : Int) ≤ 9)) <;> rfl
  · have h0 : K = [] := by rw [h]; exact between_end L (n + 1) (endOf L n) (by omega)
    subst h0
    rfl

theorem shape_eq (L : List Nd) (n : Nat) (hL : L.length ≤ 1353245080300) (hn : n < L.length) (hg : ∀ m, m < L.length → Good L m) (hs : sizesS L (n + 1) (endOf L n) = true) (hbig : ∀ x, x < L.length → kd L x = 24 → 1 < sz L x) (hk : (shp (nd L n).kind).2 = true) :
    kidsS L (shp (nd L n).kind).1 n = shapeR L (kidsB L n) (nd L n).kind := by
  rw [kidsS_eq L _ n (hg n hn) hs]
  have hl : (kidsB L n).length ≤ 1353245080300 := Nat.le_trans (kidsB_len L n (hg n hn)) hL
  have hpl : ∀ x ∈ kidsB L n, rplF L L.length x = place L x := fun x hx => by
    obtain ⟨j, hj⟩ := List.getElem?_of_mem hx
    exact rpl_place hg hbig L.length x (kidsB_lt L n (hg n hn) j x hj) (by omega)
  by_cases h1 : (nd L n).kind = 1
  · have := se_1 L n (kidsB L n) h1 hl
    rw [h1]
    exact this
  by_cases h2 : (nd L n).kind = 2
  · have := fn_len L n (kidsB L n) rfl h2 (hg n hn) hs
    rw [h2]
    exact this
  by_cases h3 : (nd L n).kind = 3
  · have := se_3 L n (kidsB L n) h3 hl
    rw [h3]
    exact this
  by_cases h4 : (nd L n).kind = 4
  · have := se_4 L n (kidsB L n) h4 hl
    rw [h4]
    exact this
  by_cases h5 : (nd L n).kind = 5
  · have := se_5 L n (kidsB L n) h5 hl
    rw [h5]
    exact this
  by_cases h6 : (nd L n).kind = 6
  · have := se_6 L n (kidsB L n) h6 hl hpl
    rw [h6]
    exact this
  by_cases h7 : (nd L n).kind = 7
  · have := se_7 L n (kidsB L n) h7 hl
    rw [h7]
    exact this
  by_cases h8 : (nd L n).kind = 8
  · have := se_8 L n (kidsB L n) h8 hl
    rw [h8]
    exact this
  by_cases h9 : (nd L n).kind = 9
  · have := se_9 L n (kidsB L n) h9 hl
    rw [h9]
    exact this
  by_cases h10 : (nd L n).kind = 10
  · have := se_10 L n (kidsB L n) h10 hl
    rw [h10]
    exact this
  by_cases h11 : (nd L n).kind = 11
  · have := se_11 L n (kidsB L n) h11 hl
    rw [h11]
    exact this
  by_cases h12 : (nd L n).kind = 12
  · have := se_12 L n (kidsB L n) h12 hl
    rw [h12]
    exact this
  by_cases h13 : (nd L n).kind = 13
  · have := se_13 L n (kidsB L n) h13 hl
    rw [h13]
    exact this
  by_cases h14 : (nd L n).kind = 14
  · have := se_14 L n (kidsB L n) h14 hl hpl
    rw [h14]
    exact this
  by_cases h15 : (nd L n).kind = 15
  · have := se_15 L n (kidsB L n) h15 hl
    rw [h15]
    exact this
  by_cases h16 : (nd L n).kind = 16
  · have := se_16 L n (kidsB L n) h16 hl
    rw [h16]
    exact this
  by_cases h20 : (nd L n).kind = 20
  · have := se_20 L n (kidsB L n) h20 hl
    rw [h20]
    exact this
  by_cases h21 : (nd L n).kind = 21
  · have := se_21 L n (kidsB L n) h21 hl
    rw [h21]
    exact this
  by_cases h22 : (nd L n).kind = 22
  · have := se_22 L n (kidsB L n) h22 hl
    rw [h22]
    exact this
  by_cases h23 : (nd L n).kind = 23
  · have := se_23 L n (kidsB L n) h23 hl
    rw [h23]
    exact this
  by_cases h24 : (nd L n).kind = 24
  · have := se_24 L n (kidsB L n) h24 hl
    rw [h24]
    exact this
  by_cases h25 : (nd L n).kind = 25
  · have := se_25 L n (kidsB L n) h25 hl
    rw [h25]
    exact this
  by_cases h26 : (nd L n).kind = 26
  · have := se_26 L n (kidsB L n) h26 hl
    rw [h26]
    exact this
  by_cases h27 : (nd L n).kind = 27
  · have := se_27 L n (kidsB L n) h27 hl
    rw [h27]
    exact this
  by_cases h28 : (nd L n).kind = 28
  · have := se_28 L n (kidsB L n) h28 hl
    rw [h28]
    exact this
  by_cases h29 : (nd L n).kind = 29
  · have := se_29 L n (kidsB L n) h29 hl
    rw [h29]
    exact this
  by_cases h30 : (nd L n).kind = 30
  · have := se_30 L n (kidsB L n) h30 hl
    rw [h30]
    exact this
  exfalso
  have := (fr_none (nd L n).kind 0 ⟨#[]⟩ ⟨#[]⟩ ⟨#[]⟩ 0 0 ⟨#[]⟩ 0 (by
    intro k hk
    simp only [List.mem_cons, List.not_mem_nil, or_false] at hk
    rcases hk with rfl | rfl | rfl | rfl | rfl | rfl | rfl | rfl | rfl | rfl | rfl | rfl | rfl | rfl | rfl | rfl | rfl | rfl | rfl | rfl | rfl | rfl | rfl | rfl | rfl | rfl | rfl <;> assumption)).2
  rw [hk] at this
  cases this

theorem node_eq (L : List Nd) (n : Nat) (hL : L.length ≤ 1353245080300) (hn : n < L.length) (hg : ∀ m, m < L.length → Good L m) (hs : sizesS L (n + 1) (endOf L n) = true) (hbig : ∀ x, x < L.length → kd L x = 24 → 1 < sz L x) (hm : (nd L n).int ≤ 9223372036854775807) :
    nodeR L n = fit nameS typeS L n := by
  unfold nodeR fit
  rw [fields_eq (nd L n) hm]
  cases hk : (shp (nd L n).kind).2 with
  | false => simp
  | true => rw [shape_eq L n hL hn hg hs hbig hk]

/-- Where every node's kids go up to its end, the sizes are right. -/
theorem sizes_of (L : List Nd) (hall : ∀ n, n < L.length → kidw L n (endOf L n) (L.length + 1) (n + 1) 0 ≠ none) : ∀ (f k e : Nat), e - k ≤ f → e ≤ L.length → (∃ n c f', kidw L n e f' k c ≠ none ∧ e ≤ k + f') → sizesS L k e = true
  | 0, k, e, h, _, _ => sizesS_end L k e (by omega)
  | f + 1, k, e, h, he, ⟨n, c, f', hk, hf⟩ => by
    by_cases hle : e ≤ k
    · exact sizesS_end L k e hle
    · obtain ⟨g, rfl⟩ : ∃ g, f' = g + 1 := ⟨f' - 1, by omega⟩
      unfold kidw at hk
      rw [if_neg hle] at hk
      by_cases hb : sz L k < 1 ∨ (e : Int) - k < sz L k ∨ may L n k c = false
      · rw [if_pos hb] at hk
        exact absurd rfl hk
      · rw [if_neg hb] at hk
        have hb' : ¬ (sz L k < 1 ∨ (e : Int) - k < sz L k) := fun h => hb (by rcases h with h | h; exact .inl h; exact .inr (.inl h))
        rw [sizesS_go L k e (by omega) hb', Bool.and_eq_true]
        refine ⟨?_, sizes_of L hall f _ e (by omega) he ⟨n, c + 1, g, hk, by omega⟩⟩
        have := hall k (by omega)
        exact sizes_of L hall f (k + 1) (k + (sz L k).toNat) (by omega) (by omega) ⟨k, 0, L.length + 1, this, by omega⟩

theorem ref_tree (L : List Nd) (hL : L.length ≤ 1353245080300) (hr : ∀ n, n < L.length → (nd L n).int ≤ 9223372036854775807) : refS L = treeS nameS typeS L := by
  unfold refS treeS headS
  by_cases hpos : 0 < L.length
  · cases h0 : (sz L 0 == (L.length : Int)) with
    | false => simp
    | true =>
      have hs0 : sz L 0 = (L.length : Int) := by simpa using h0
      cases hroot : ((nd L 0).kind == 1 || isExpr (nd L 0).kind) with
      | false => simp
      | true =>
        rw [decide_eq_true hpos]
        simp only [Bool.true_and, Bool.and_true]
        rw [Bool.eq_iff_iff, Bool.and_eq_true]
        have key : sizesS L 1 L.length = true → (∀ x, x < L.length → kd L x = 24 → 1 < sz L x) → (List.range L.length).all (nodeR L) = (List.range L.length).all (fit nameS typeS L) := fun hs hbig => by
          have hsz := sizes_root hs0 hpos hs
          have : ∀ n ∈ List.range L.length, nodeR L n = fit nameS typeS L n := fun n hn => by
            have hn' := List.mem_range.1 hn
            exact node_eq L n hL hn' (fun m hm => (hsz m hm).1) (hsz n hn').2 hbig (hr n hn')
          rw [Bool.eq_iff_iff, List.all_eq_true, List.all_eq_true]
          exact ⟨fun h n hn => (this n hn) ▸ h n hn, fun h n hn => (this n hn).symm ▸ h n hn⟩
        constructor
        · rintro ⟨hs, ha⟩
          have hsz := sizes_root hs0 hpos hs
          have hbig : ∀ x, x < L.length → kd L x = 24 → 1 < sz L x := fun x hx h24 => by
            have hn := List.all_eq_true.1 ha x (List.mem_range.2 hx)
            unfold nodeR at hn
            rw [Bool.and_eq_true] at hn
            have h2 := hn.2
            rw [show (nd L x).kind = 24 from h24] at h2
            have e : shapeR L (kidsB L x) 24 = (decide ((kidsB L x).length = 2) && exprsS L (kidsB L x)) := rfl
            rw [e, Bool.and_eq_true, decide_eq_true_eq] at h2
            by_cases hle : endOf L x ≤ x + 1
            · have := between_end L (x + 1) (endOf L x) hle
              rw [show kidsB L x = [] from this] at h2
              simp at h2
            · have := (hsz x hx).1.1
              unfold endOf at hle
              omega
          rw [← key hs hbig]
          exact ha
        · intro ha
          have hk : ∀ n, n < L.length → kidw L n (endOf L n) (L.length + 1) (n + 1) 0 ≠ none := fun n hn h => by
            have hf := List.all_eq_true.1 ha n (List.mem_range.2 hn)
            unfold fit at hf
            simp only [Bool.and_eq_true] at hf
            have := hf.2
            unfold kidsS at this
            rw [h] at this
            cases this
          have hs : sizesS L 1 L.length = true := by
            refine sizes_of L hk L.length 1 L.length (by omega) (Nat.le_refl _) ⟨0, 0, L.length + 1, ?_, by omega⟩
            have := hk 0 hpos
            have e : endOf L 0 = L.length := by unfold endOf; rw [hs0]; simp
            rwa [e] at this
          have hsz := sizes_root hs0 hpos hs
          have hbig : ∀ x, x < L.length → kd L x = 24 → 1 < sz L x := fun x hx h24 => by
            have hf := List.all_eq_true.1 ha x (List.mem_range.2 hx)
            unfold fit at hf
            simp only [Bool.and_eq_true] at hf
            have h2 := hf.2
            rw [kidsS_eq L _ x (hsz x hx).1 (hsz x hx).2, show (nd L x).kind = 24 from h24] at h2
            simp only [Bool.and_eq_true, decide_eq_true_eq] at h2
            have h3 : (2 : Int) ≤ ((kidsB L x).length : Int) := h2.2.1
            by_cases hle : endOf L x ≤ x + 1
            · have := between_end L (x + 1) (endOf L x) hle
              rw [show kidsB L x = [] from this] at h3
              simp at h3
            · have := (hsz x hx).1.1
              unfold endOf at hle
              omega
          exact ⟨hs, by rw [key hs hbig]; exact ha⟩
  · simp [hpos]
end Go.Proofs.YtlocaalipjjnpaaDoor
