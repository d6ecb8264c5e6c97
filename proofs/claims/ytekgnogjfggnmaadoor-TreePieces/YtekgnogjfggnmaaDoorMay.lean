import Derived.Test.YtekgnogjfggnmaaDoorLay
namespace Go.Proofs.YtekgnogjfggnmaaDoor
open Go.RowKit

/-- 'may' in letters. -/
def mayB (p q : Int) (c : Nat) (lt pl ex st : Bool) : Bool :=
  if p = 1 then q == 2
  else if p = 2 then (if lt then q == 3 else q == 4)
  else if p = 4 then st
  else if p = 6 ∧ c = 0 then pl
  else if p = 14 then pl
  else if p = 15 then q == 25
  else if p = 7 ∧ 0 < c then q == 4 || (c == 2 && q == 7)
  else if p = 8 ∧ c = 1 then q == 4
  else if p = 9 ∧ c = 2 then q == 4
  else ex
theorem may_b (L : List Nd) (n k c : Nat) : may L n k c = mayB (nd L n).kind (nd L k).kind c (decide ((k : Int) + sz L k < (n : Int) + sz L n)) (place L k) (isExpr (nd L k).kind) (isStmt (nd L k).kind) := by
  unfold may mayB
  simp only [decide_eq_true_eq]

set_option maxRecDepth 100000 in
set_option maxHeartbeats 4000000 in
theorem mayStand_any (w : World) (g o cap : Nat) (L : List Nd) (n k c : Nat) (hL : L.length ≤ 1353245080300) (hn : n < L.length) (hk : k < L.length) (hgn : Good L n) (hgk : Good L k) (hc : c ≤ 1353245080300) (h : Hid (Lay w g o L)) :
    Calls Tryd.prog 71 #[.slice (some ⟨g, o, none⟩) L.length cap, .int .i64 (n : Int), .int .i64 (k : Int), .int .i64 (c : Int)] w fun e w' => e = .returned (.bool (may L n k c)) ∧ Below w.heap.size w w' := by
  rw [may_b]
  have HP : Hid (Calls Tryd.prog 85 #[.slice (some ⟨g, o, none⟩) L.length cap, .int .i64 (k : Int)] w fun e w' => e = .returned (.bool (place L k)) ∧ w = w') := isPlace_any w g o cap L k hL (by omega) h
  have HE : Hid (Calls Tryd.prog 67 #[.int .i64 (nd L k).kind] w fun e w' => e = .returned (.bool (isExpr (nd L k).kind)) ∧ w = w') := isExpression_any _ w
  have HS : Hid (Calls Tryd.prog 84 #[.int .i64 (nd L k).kind] w fun e w' => e = .returned (.bool (isStmt (nd L k).kind)) ∧ w = w') := isStatement_any _ w
  have i0 : (0 : Int) ≤ (n : Int) := by omega
  have i1 : (n : Int) < (L.length : Int) := by omega
  have j0 : (0 : Int) ≤ (k : Int) := by omega
  have j1 : (k : Int) < (L.length : Int) := by omega
  have dn := h.out.kind hn
  have dk := h.out.kind hk
  have en := h.out.size hn
  have ek := h.out.size hk
  obtain ⟨a1, a2⟩ := hgn
  obtain ⟨b1, b2⟩ := hgk
  unfold sz at *
  generalize place L k = pl at *
  generalize isExpr (nd L k).kind = ex at *
  generalize isStmt (nd L k).kind = st at *
  generalize (nd L n).kind = p at *
  generalize (nd L k).kind = q at *
  generalize (nd L n).size = sn at *
  generalize (nd L k).size = sk at *
  obtain ⟨r, hr⟩ : ∃ r, mayB p q c (decide ((k : Int) + sk < (n : Int) + sn)) pl ex st = r := ⟨_, rfl⟩
  have HR : Hid (mayB p q c (decide ((k : Int) + sk < (n : Int) + sn)) pl ex st = r) := hr
  rw [hr]
  clear hr h
  by_cases h2 : p = 2
  · subst h2
    clear HP HE HS
    have HR2 : Hid (r = if (k : Int) + sk < (n : Int) + sn then q == 3 else q == 4) := by
      show _ = _
      rw [← HR.out]
      unfold mayB
      simp
    clear HR
    by_cases hq : (k : Int) + sk < (n : Int) + sn
    · have HR3 : Hid (r = (q == 3)) := by rw [if_pos hq] at HR2; exact HR2
      clear HR2
      go_enter Tryd.func71, Tryd.ntmps71
      go_wp2
      go_region
      go_wp2
      rw [HR3.out]
      go_ret
      exact ⟨rfl, (Below.refl _ w).drew⟩
    · have HR3 : Hid (r = (q == 4)) := by rw [if_neg hq] at HR2; exact HR2
      clear HR2
      go_enter Tryd.func71, Tryd.ntmps71
      go_wp2
      go_region
      go_wp2
      rw [HR3.out]
      go_ret
      exact ⟨rfl, (Below.refl _ w).drew⟩
  · have h2' : (p == 2) = false := by simpa using h2
    go_enter Tryd.func71, Tryd.ntmps71
    go_wp2_with (first
      | (go_at_call 67; refine HE.out.mono ?_; rintro e w2 ⟨rfl, hw2⟩; subst hw2)
      | (go_at_call 84; refine HS.out.mono ?_; rintro e w2 ⟨rfl, hw2⟩; subst hw2)
      | (go_at_call 85; refine HP.out.mono ?_; rintro e w2 ⟨rfl, hw2⟩; subst hw2)
      | go_in)
    all_goals
      rw [← HR.out]
      clear HR HE HS HP dn dk en ek
      go_ret
      refine ⟨?_, Below.refl _ _⟩
      simp only [beq_iff_eq, beq_eq_false_iff_ne, Int.natCast_eq_zero, ne_eq] at *
    all_goals first
      | (simp_all [mayB]; done)
      | (simp_all [mayB]; omega)
      | (have c2 : c = 2 := (by omega); subst c2; simp_all [mayB]; done)

end Go.Proofs.YtekgnogjfggnmaaDoor
