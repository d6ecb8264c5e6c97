import Derived.Deep.RegionHeld3
import Derived.Test.YtlocaalipjjnpaaDoorM09
import Derived.Test.YtlocaalipjjnpaaDoorM27
import Derived.Test.YtlocaalipjjnpaaDoorM22
import Derived.Test.YtlocaalipjjnpaaDoorM23
namespace Go.Proofs.YtlocaalipjjnpaaDoor
open Go.RowKit

/-- The hook that is put in. -/
def hookN : Nd := ⟨16, 0, ⟨#[]⟩, ⟨#[]⟩, ⟨#[]⟩, 0, 1, ⟨#[]⟩, 1⟩
def incN (n k : Nat) (y : Nd) : Nd := if k ≤ n ∧ (n : Int) < (k : Int) + y.size then { y with size := y.size + 1 } else y
/-- The first k nodes, with the hook behind the node n. -/
def putP (L : List Nd) (n : Nat) : Nat → List Nd
  | 0 => []
  | k + 1 => (putP L n k ++ [incN n k (nd L k)]) ++ if k = n then [hookN] else []
theorem putP_len (L : List Nd) (n : Nat) : ∀ k, (putP L n k).length = k + if n < k then 1 else 0
  | 0 => by simp [putP]
  | k + 1 => by
    unfold putP
    rw [List.length_append, List.length_append, putP_len L n k]
    by_cases h1 : k = n
    · subst h1
      simp
    · rw [if_neg h1]
      by_cases h2 : n < k
      · rw [if_pos h2, if_pos (by omega)]; simp
      · rw [if_neg h2, if_neg (by omega)]; simp

/-- A row that lies below what may have turned. -/
theorem own_low {w w' : World} {base b : Nat} {e : TypeId} {size : Nat} {v : Value} {n : Nat} {xs : List Value} (h : w.ownsRow b e size v n xs) (hlt : ∀ g, v.ownBlock = some g → g < base) (hb : Below base w w') : w'.ownsRow b e size v n xs := by
  refine ⟨h.1, ?_⟩
  rcases h.2 with q | ⟨g, cap, cur, rfl, h1, h2, h3⟩
  · exact .inl q
  · exact .inr ⟨g, cap, cur, rfl, h1, (hb.block g (hlt g rfl)).trans h2, h3⟩
theorem own_on {w w' : World} {b : Nat} {e : TypeId} {size : Nat} {v : Value} {n : Nat} {xs : List Value} (h : w.ownsRow b e size v n xs) (hb : Below w.heap.size w w') : w'.ownsRow b e size v n xs := own_low h (fun g hg => (h.lt g hg).2) hb
theorem own_set {w : World} {b : Nat} {e : TypeId} {size : Nat} {v : Value} {n : Nat} {xs : List Value} (h : w.ownsRow b e size v n xs) (g o : Nat) (u : Value) (hne : v.ownBlock ≠ some g) : (w.setCell ⟨g, o, none⟩ u).ownsRow b e size v n xs := by
  refine ⟨h.1, ?_⟩
  rcases h.2 with q | ⟨g', cap, cur, rfl, h1, h2, h3⟩
  · exact .inl q
  · exact .inr ⟨g', cap, cur, rfl, h1, (Below.heap_setCell _ _ _ _ (fun e => hne (by rw [e]; rfl))).trans h2, h3⟩

theorem run_app9 (w : World) (base : Nat) (v : Value) (l : List Nd) (y : Nd) (hown : w.ownsRow base 39 9 v l.length (flat l)) (H : Nat) (hH : w.heap[H]? = some (.cells (ndV y) 39)) (h40 : l.length + 1 ≤ 1353245080301) (hbase : base ≤ w.heap.size) :
    ∃ v' w', (Builtin.append_ #[22, 22] 22 #[v, .slice (some ⟨H, 0, none⟩) 1 1]).run Tryd.prog w = .ok v' w' ∧ w'.ownsRow base 39 9 v' (l ++ [y]).length (flat (l ++ [y])) ∧ Below base w w' := by
  obtain ⟨i0, hi, hz0, hz1, hz2⟩ := info_parts info36
  obtain ⟨v', w', hr, h2, h3, _⟩ := run_append_own (P := Tryd.prog) w base 22 22 39 i0 _ 9 104 Tryd.underlying22 hi hz0 hz1 hz2 rfl (by decide) v l.length (flat l) hown ⟨H, 0, none⟩ 1 1 (ndV y).toList rfl (fun j u hu => by
      rw [show (⟨H, 0, none⟩ : Addr).add j = ⟨H, j, none⟩ by by_cases hj : j = 0 <;> simp [Addr.add, hj]]
      exact (cell_block hH (by simpa using hu)).1) (by
      intro u hu
      unfold ndV at hu
      simp only [List.mem_cons, List.not_mem_nil, or_false] at hu
      rcases hu with rfl | rfl | rfl | rfl | rfl | rfl | rfl | rfl | rfl <;> rfl) (by unfold maxLen; omega) (by omega) hbase
  refine ⟨v', w', hr, ?_, (Below.refl _ w).grown h3 hbase (own_ge hown)⟩
  rw [flat_app, flat_sing, List.length_append]
  exact h2

theorem own_formN {W : World} {base n : Nat} {u : Value} {xs : List Value} (h : W.ownsRow base 39 9 u n xs) : ∃ ov cap, u = .slice ov n cap ∧ (0 < n → ∃ g, ov = some ⟨g, 0, none⟩) := by
  rcases h.2 with ⟨rfl, rfl⟩ | ⟨g, cap, _, rfl, _⟩
  · exact ⟨none, 0, rfl, fun h => absurd h (Nat.lt_irrefl _)⟩
  · exact ⟨_, cap, rfl, fun _ => ⟨g, rfl⟩⟩

set_option maxRecDepth 100000 in
set_option maxHeartbeats 2000000 in
theorem put_any (w : World) (p : Option Addr) (m cap : Nat) (L : List Nd) (n : Nat) (h : Reads w p m L) (hm : m ≤ 1353245080299) (hsz : ∀ k, k < m → 0 ≤ (nd L k).size ∧ (nd L k).size ≤ 1353245080300) :
    Calls Tryd.prog 8 #[.agg #[.slice p m cap], .int .i64 (n : Int)] w fun e w' => (∃ v, e = .returned (.agg #[v]) ∧ Hid (w'.ownsRow w.heap.size 39 9 v (putP L n m).length (flat (putP L n m)))) ∧ Below w.heap.size w w' := by
  obtain ⟨w1, hw1, z1, B1, c0⟩ : ∃ w1, (w.alloc (.cells #[.slice p m cap] 24)).alloc (.cells #[.slice none 0 0] 24) = w1 ∧ w1.heap.size = w.heap.size + 2 ∧ Below w.heap.size w w1 ∧ w1.cell? ⟨w.heap.size, 0, none⟩ = some (.slice p m cap) :=
    ⟨_, rfl, by simp, ((Below.refl _ w).alloc (Nat.le_refl _) _).alloc (by simp) _, cell_old _ (cell_new _ _ _ _ _ rfl)⟩
  have hc : w1.heap[w.heap.size + 1]? = some (.cells #[.slice none 0 0] 24) := by rw [← hw1]; simp only [hgAlloc, World.size_alloc]; rw [if_pos (by first | trivial | omega)]
  have c1 : w1.cell? ⟨w.heap.size + 1, 0, none⟩ = some (.slice none 0 0) ∧ w1.frozen? ⟨w.heap.size + 1, 0, none⟩ = false := cell_block (k := 0) hc rfl
  have BB : Hid (Below w.heap.size w w1) := B1
  have HR : Hid (Reads w1 p m L) := h.next B1
  have HSZ : Hid (∀ k, k < m → 0 ≤ (nd L k).size ∧ (nd L k).size ≤ 1353245080300) := hsz
  have HC1 : Hid (w1.cell? ⟨w.heap.size + 1, 0, none⟩ = some (.slice none 0 0) ∧ w1.frozen? ⟨w.heap.size + 1, 0, none⟩ = false) := c1
  clear h B1 hc c1 hsz
  go_enter Tryd.func8, Tryd.ntmps8
  go_wp2
  go_loopw [5, 11] (fun v5 v11 wr => ∃ k : Nat, v11 = .int .i64 (k : Int) ∧ k ≤ m ∧ Hid (wr.ownsRow w1.heap.size 39 9 v5 (putP L n k).length (flat (putP L n k))) ∧ Hid (Below w1.heap.size w1 wr)) (fun _ v _ => m - (intOf v).toNat)
  case atStart => exact ⟨0, rfl, Nat.zero_le _, World.ownsRow_nil _ _ _ _, Below.refl _ _⟩
  case round =>
    obtain ⟨k, rfl, hk, hO, hB⟩ := hrel
    have d0 := (hB.out.cell (p := ⟨w.heap.size, 0, none⟩) (by show w.heap.size < _; omega)).trans c0
    by_cases hlt : k < m
    · have j0 : (0 : Int) ≤ (k : Int) := by omega
      have j1 : (k : Int) < (m : Int) := by omega
      have i4 : IntKind.i64.wrap ((k : Int) + 1) = (k : Int) + 1 := by rw [IntKind.wrap_i64]; omega
      obtain ⟨hf, hlen, hr⟩ := HR.out
      obtain ⟨g, o, rfl, hl⟩ := hr (fun e => by rw [e] at hlen; simp at hlen; omega)
      have cs := (hl.next hB.out).c k (by omega)
      have hs := HSZ.out k hlt
      have hPL : (putP L n k).length ≤ k + 1 := by rw [putP_len]; split <;> omega
      obtain ⟨M, hM⟩ : ∃ M, putP L n k = M := ⟨_, rfl⟩
      have hst : putP L n (k + 1) = (putP L n k ++ [incN n k (nd L k)]) ++ if k = n then [hookN] else [] := rfl
      obtain ⟨y, hy⟩ : ∃ y, nd L k = y := ⟨_, rfl⟩
      unfold incN at hst
      rw [hy] at cs hs hst
      rw [hM] at hO hPL hst
      have HST : Hid (putP L n (k + 1) = (M ++ [if k ≤ n ∧ (n : Int) < (k : Int) + y.size then { y with size := y.size + 1 } else y]) ++ if k = n then [hookN] else []) := hst
      clear hst hf hlen hr hl hM hy
      obtain ⟨q0, q1, q2, q3, q4, q5, q6, q7, q8⟩ := y
      have e0 : wr.cell? ⟨g, o + k * 9, none⟩ = some (.int .i64 q0) := cs 0 _ rfl
      have e1 : wr.cell? ⟨g, o + k * 9 + 1, none⟩ = some (.int .i64 q1) := cs 1 _ rfl
      have e2 : wr.cell? ⟨g, o + k * 9 + 2, none⟩ = some (.string q2) := cs 2 _ rfl
      have e3 : wr.cell? ⟨g, o + k * 9 + 3, none⟩ = some (.string q3) := cs 3 _ rfl
      have e4 : wr.cell? ⟨g, o + k * 9 + 4, none⟩ = some (.string q4) := cs 4 _ rfl
      have e5 : wr.cell? ⟨g, o + k * 9 + 5, none⟩ = some (.int .i64 q5) := cs 5 _ rfl
      have e6 : wr.cell? ⟨g, o + k * 9 + 6, none⟩ = some (.int .i64 q6) := cs 6 _ rfl
      have e7 : wr.cell? ⟨g, o + k * 9 + 7, none⟩ = some (.string q7) := cs 7 _ rfl
      have e8 : wr.cell? ⟨g, o + k * 9 + 8, none⟩ = some (.int .i64 q8) := cs 8 _ rfl
      simp only at hs
      have i5 : IntKind.i64.wrap ((k : Int) + q8) = (k : Int) + q8 := by rw [IntKind.wrap_i64]; omega
      have i6 : IntKind.i64.wrap (q8 + 1) = q8 + 1 := by rw [IntKind.wrap_i64]; omega
      obtain ⟨wa, hwa⟩ : ∃ wa, wr.alloc (.cells #[.int .i64 q0, .int .i64 q1, .string q2, .string q3, .string q4, .int .i64 q5, .int .i64 q6, .string q7, .int .i64 q8] 39) = wa := ⟨_, rfl⟩
      have ba : Below wr.heap.size wr wa := by rw [← hwa]; exact (Below.refl _ wr).alloc (Nat.le_refl _) _
      have za : wa.heap.size = wr.heap.size + 1 := by rw [← hwa]; simp
      have ha : wa.heap[wr.heap.size]? = some (.cells #[.int .i64 q0, .int .i64 q1, .string q2, .string q3, .string q4, .int .i64 q5, .int .i64 q6, .string q7, .int .i64 q8] 39) := by rw [← hwa, hgAlloc, if_pos rfl]
      have x0 := (cell_block (k := 0) ha rfl).1
      have x1 := (cell_block (k := 1) ha rfl).1
      have x2 := (cell_block (k := 2) ha rfl).1
      have x3 := (cell_block (k := 3) ha rfl).1
      have x4 := (cell_block (k := 4) ha rfl).1
      have x5 := (cell_block (k := 5) ha rfl).1
      have x6 := (cell_block (k := 6) ha rfl).1
      have x7 := (cell_block (k := 7) ha rfl).1
      have x8 := (cell_block (k := 8) ha rfl).1
      have f8 := (cell_block (k := 8) ha rfl).2
      have hzs := hB.out.size
      have HLT : Hid (∀ b, u5.ownBlock = some b → b < wr.heap.size) := fun b hb => (hO.out.lt b hb).2
      have HOa : Hid (wa.ownsRow w1.heap.size 39 9 u5 M.length (flat M)) := own_on hO.out ba
      have HBA : Hid (Below w1.heap.size w1 wa) := hB.out.trans (ba.mono hB.out.size)
      have HZA : Hid (wa.heap.size = wr.heap.size + 1) := za
      clear cs ha hO hB za
      by_cases hinc : k ≤ n ∧ (n : Int) < (k : Int) + q8
      · have t1 : (k : Int) ≤ (n : Int) := by omega
        have t2 : (n : Int) < (k : Int) + q8 := hinc.2
        rw [if_pos hinc] at HST
        obtain ⟨wb, hwb⟩ : ∃ wb, wa.setCell ⟨wr.heap.size, 8, none⟩ (.int .i64 (q8 + 1)) = wb := ⟨_, rfl⟩
        have hne : ∀ {a b : Nat}, a ≠ b → (⟨wr.heap.size, a, none⟩ : Addr) ≠ ⟨wr.heap.size, b, none⟩ := fun hab e => hab (by cases e; rfl)
        have y0 : wb.cell? ⟨wr.heap.size, 0, none⟩ = some (.int .i64 q0) := by rw [← hwb]; exact set_at _ x0 (hne (by decide))
        have y1 : wb.cell? ⟨wr.heap.size, 1, none⟩ = some (.int .i64 q1) := by rw [← hwb]; exact set_at _ x1 (hne (by decide))
        have y2 : wb.cell? ⟨wr.heap.size, 2, none⟩ = some (.string q2) := by rw [← hwb]; exact set_at _ x2 (hne (by decide))
        have y3 : wb.cell? ⟨wr.heap.size, 3, none⟩ = some (.string q3) := by rw [← hwb]; exact set_at _ x3 (hne (by decide))
        have y4 : wb.cell? ⟨wr.heap.size, 4, none⟩ = some (.string q4) := by rw [← hwb]; exact set_at _ x4 (hne (by decide))
        have y5 : wb.cell? ⟨wr.heap.size, 5, none⟩ = some (.int .i64 q5) := by rw [← hwb]; exact set_at _ x5 (hne (by decide))
        have y6 : wb.cell? ⟨wr.heap.size, 6, none⟩ = some (.int .i64 q6) := by rw [← hwb]; exact set_at _ x6 (hne (by decide))
        have y7 : wb.cell? ⟨wr.heap.size, 7, none⟩ = some (.string q7) := by rw [← hwb]; exact set_at _ x7 (hne (by decide))
        have y8 : wb.cell? ⟨wr.heap.size, 8, none⟩ = some (.int .i64 (q8 + 1)) := by rw [← hwb]; exact set_same x8 _
        have HOb : Hid (wb.ownsRow w1.heap.size 39 9 u5 M.length (flat M)) := by
          rw [← hwb]
          exact own_set HOa.out wr.heap.size 8 _ (fun e => by have := HLT.out _ e; omega)
        have HBB : Hid (Below w1.heap.size w1 wb) := by rw [← hwb]; exact HBA.out.setCell (p := ⟨wr.heap.size, 8, none⟩) hzs _
        obtain ⟨wc, hwc⟩ : ∃ wc, wb.alloc (.cells (ndV ⟨q0, q1, q2, q3, q4, q5, q6, q7, q8 + 1⟩) 39) = wc := ⟨_, rfl⟩
        have bc : Below wb.heap.size wb wc := by rw [← hwc]; exact (Below.refl _ wb).alloc (Nat.le_refl _) _
        obtain ⟨va, wd, hrun, hod, hbd⟩ := run_app9 wc w1.heap.size u5 M ⟨q0, q1, q2, q3, q4, q5, q6, q7, q8 + 1⟩ (own_on HOb.out bc) wb.heap.size (by rw [← hwc, hgAlloc, if_pos rfl]) (by omega) (Nat.le_trans HBB.out.size bc.size)
        have HBD : Hid (Below w1.heap.size w1 wd) := (HBB.out.trans (bc.mono HBB.out.size)).trans hbd
        have HOD : Hid (wd.ownsRow w1.heap.size 39 9 va (M ++ [(⟨q0, q1, q2, q3, q4, q5, q6, q7, q8 + 1⟩ : Nd)]).length (flat (M ++ [(⟨q0, q1, q2, q3, q4, q5, q6, q7, q8 + 1⟩ : Nd)]))) := hod
        unfold ndV at hwc
        clear bc hod hbd ba hinc hne
        by_cases hkn : k = n
        · have u1 : ((k : Int) == (n : Int)) = true := by rw [hkn]; simp
          rw [if_pos hkn] at HST
          clear hkn
          obtain ⟨we, hwe⟩ : ∃ we, wd.alloc (.cells (ndV hookN) 39) = we := ⟨_, rfl⟩
          have be : Below wd.heap.size wd we := by rw [← hwe]; exact (Below.refl _ wd).alloc (Nat.le_refl _) _
          obtain ⟨vb, wf, hrun2, hof, hbf⟩ := run_app9 we w1.heap.size va (M ++ [(⟨q0, q1, q2, q3, q4, q5, q6, q7, q8 + 1⟩ : Nd)]) hookN (own_on HOD.out be) wd.heap.size (by rw [← hwe, hgAlloc, if_pos rfl]) (by rw [List.length_append]; simp; omega) (Nat.le_trans HBD.out.size be.size)
          have HBF : Hid (Below w1.heap.size w1 wf) := (HBD.out.trans (be.mono HBD.out.size)).trans hbf
          rw [← HST.out] at hof
          have HOF : Hid (wf.ownsRow w1.heap.size 39 9 vb (putP L n (k + 1)).length (flat (putP L n (k + 1)))) := hof
          unfold ndV hookN at hwe
          clear be hof hbf
          go_wp2_with (first
            | (at_builtin; first | refine wpList_run22 (by rfl) _ _ (by rfl) _ _ va (by rfl) (by rfl) (by rfl) hrun ?_ | refine wpList_run22 (by rfl) _ _ (by rfl) _ _ vb (by rfl) (by rfl) (by rfl) hrun2 ?_)
            | go_in)
          exact ⟨⟨k + 1, by simp, by omega, HOF, HBF⟩, by simp [intOf]; omega⟩
        · have u1 : ((k : Int) == (n : Int)) = false := by simp; omega
          rw [if_neg hkn, List.append_nil] at HST
          clear hkn
          rw [← HST.out] at HOD
          go_wp2_with (first
            | (at_builtin; refine wpList_run22 (by rfl) _ _ (by rfl) _ _ va (by rfl) (by rfl) (by rfl) hrun ?_)
            | go_in)
          exact ⟨⟨k + 1, by simp, by omega, HOD, HBD⟩, by simp [intOf]; omega⟩
      · rw [if_neg hinc] at HST
        obtain ⟨wc, hwc⟩ : ∃ wc, wa.alloc (.cells (ndV ⟨q0, q1, q2, q3, q4, q5, q6, q7, q8⟩) 39) = wc := ⟨_, rfl⟩
        have bc : Below wa.heap.size wa wc := by rw [← hwc]; exact (Below.refl _ wa).alloc (Nat.le_refl _) _
        obtain ⟨va, wd, hrun, hod, hbd⟩ := run_app9 wc w1.heap.size u5 M ⟨q0, q1, q2, q3, q4, q5, q6, q7, q8⟩ (own_on HOa.out bc) wa.heap.size (by rw [← hwc, hgAlloc, if_pos rfl]) (by omega) (Nat.le_trans HBA.out.size bc.size)
        have HBD : Hid (Below w1.heap.size w1 wd) := (HBA.out.trans (bc.mono HBA.out.size)).trans hbd
        have HOD : Hid (wd.ownsRow w1.heap.size 39 9 va (M ++ [(⟨q0, q1, q2, q3, q4, q5, q6, q7, q8⟩ : Nd)]).length (flat (M ++ [(⟨q0, q1, q2, q3, q4, q5, q6, q7, q8⟩ : Nd)]))) := hod
        unfold ndV at hwc
        clear bc hod hbd ba
        by_cases t1 : (k : Int) ≤ (n : Int)
        · have t2 : ¬ ((n : Int) < (k : Int) + q8) := fun e => hinc ⟨by omega, e⟩
          clear hinc
          by_cases hkn : k = n
          · have u1 : ((k : Int) == (n : Int)) = true := by rw [hkn]; simp
            rw [if_pos hkn] at HST
            clear hkn
            obtain ⟨we, hwe⟩ : ∃ we, wd.alloc (.cells (ndV hookN) 39) = we := ⟨_, rfl⟩
            have be : Below wd.heap.size wd we := by rw [← hwe]; exact (Below.refl _ wd).alloc (Nat.le_refl _) _
            obtain ⟨vb, wf, hrun2, hof, hbf⟩ := run_app9 we w1.heap.size va (M ++ [(⟨q0, q1, q2, q3, q4, q5, q6, q7, q8⟩ : Nd)]) hookN (own_on HOD.out be) wd.heap.size (by rw [← hwe, hgAlloc, if_pos rfl]) (by rw [List.length_append]; simp; omega) (Nat.le_trans HBD.out.size be.size)
            have HBF : Hid (Below w1.heap.size w1 wf) := (HBD.out.trans (be.mono HBD.out.size)).trans hbf
            rw [← HST.out] at hof
            have HOF : Hid (wf.ownsRow w1.heap.size 39 9 vb (putP L n (k + 1)).length (flat (putP L n (k + 1)))) := hof
            unfold ndV hookN at hwe
            clear be hof hbf
            go_wp2_with (first
              | (at_builtin; first | refine wpList_run22 (by rfl) _ _ (by rfl) _ _ va (by rfl) (by rfl) (by rfl) hrun ?_ | refine wpList_run22 (by rfl) _ _ (by rfl) _ _ vb (by rfl) (by rfl) (by rfl) hrun2 ?_)
              | go_in)
            exact ⟨⟨k + 1, by simp, by omega, HOF, HBF⟩, by simp [intOf]; omega⟩
          · have u1 : ((k : Int) == (n : Int)) = false := by simp; omega
            rw [if_neg hkn, List.append_nil] at HST
            clear hkn
            rw [← HST.out] at HOD
            go_wp2_with (first
              | (at_builtin; refine wpList_run22 (by rfl) _ _ (by rfl) _ _ va (by rfl) (by rfl) (by rfl) hrun ?_)
              | go_in)
            exact ⟨⟨k + 1, by simp, by omega, HOD, HBD⟩, by simp [intOf]; omega⟩
        · clear hinc
          by_cases hkn : k = n
          · have u1 : ((k : Int) == (n : Int)) = true := by rw [hkn]; simp
            rw [if_pos hkn] at HST
            clear hkn
            obtain ⟨we, hwe⟩ : ∃ we, wd.alloc (.cells (ndV hookN) 39) = we := ⟨_, rfl⟩
            have be : Below wd.heap.size wd we := by rw [← hwe]; exact (Below.refl _ wd).alloc (Nat.le_refl _) _
            obtain ⟨vb, wf, hrun2, hof, hbf⟩ := run_app9 we w1.heap.size va (M ++ [(⟨q0, q1, q2, q3, q4, q5, q6, q7, q8⟩ : Nd)]) hookN (own_on HOD.out be) wd.heap.size (by rw [← hwe, hgAlloc, if_pos rfl]) (by rw [List.length_append]; simp; omega) (Nat.le_trans HBD.out.size be.size)
            have HBF : Hid (Below w1.heap.size w1 wf) := (HBD.out.trans (be.mono HBD.out.size)).trans hbf
            rw [← HST.out] at hof
            have HOF : Hid (wf.ownsRow w1.heap.size 39 9 vb (putP L n (k + 1)).length (flat (putP L n (k + 1)))) := hof
            unfold ndV hookN at hwe
            clear be hof hbf
            go_wp2_with (first
              | (at_builtin; first | refine wpList_run22 (by rfl) _ _ (by rfl) _ _ va (by rfl) (by rfl) (by rfl) hrun ?_ | refine wpList_run22 (by rfl) _ _ (by rfl) _ _ vb (by rfl) (by rfl) (by rfl) hrun2 ?_)
              | go_in)
            exact ⟨⟨k + 1, by simp, by omega, HOF, HBF⟩, by simp [intOf]; omega⟩
          · have u1 : ((k : Int) == (n : Int)) = false := by simp; omega
            rw [if_neg hkn, List.append_nil] at HST
            clear hkn
            rw [← HST.out] at HOD
            go_wp2_with (first
              | (at_builtin; refine wpList_run22 (by rfl) _ _ (by rfl) _ _ va (by rfl) (by rfl) (by rfl) hrun ?_)
              | go_in)
            exact ⟨⟨k + 1, by simp, by omega, HOD, HBD⟩, by simp [intOf]; omega⟩
    · obtain rfl : k = m := by omega
      have hji : ¬ ((k : Int) < (k : Int)) := by omega
      have hzs := hB.out.size
      have c9 := (hB.out.cell (p := ⟨w.heap.size + 1, 0, none⟩) (by show w.heap.size + 1 < _; omega)).trans HC1.out.1
      have f9 := (hB.out.frozen (p := ⟨w.heap.size + 1, 0, none⟩) (by show w.heap.size + 1 < _; omega)).trans HC1.out.2
      have hq : (wr.setCell ⟨w.heap.size + 1, 0, none⟩ u5).cell? ⟨w.heap.size + 1, 0, none⟩ = some u5 := set_same c9 _
      have HFIN : Hid ((wr.setCell ⟨w.heap.size + 1, 0, none⟩ u5).ownsRow w.heap.size 39 9 u5 (putP L n k).length (flat (putP L n k))) := by
        exact own_base (own_set hO.out (w.heap.size + 1) 0 _ (fun e => by have := (hO.out.lt _ e).1; omega)) (by omega)
      have HBF : Hid (Below w.heap.size w (wr.setCell ⟨w.heap.size + 1, 0, none⟩ u5)) := (BB.out.trans (hB.out.mono BB.out.size)).setCell (p := ⟨w.heap.size + 1, 0, none⟩) (by show w.heap.size ≤ w.heap.size + 1; omega) _
      obtain ⟨ov, oc, hu5, -⟩ := own_formN hO.out
      subst hu5
      clear hO hB
      go_wp2
      exact bodyPost_ret (v := .agg #[.slice ov (putP L n k).length oc]) (by simp [results, Tryd.results8, go_sem, hq]) rfl ⟨⟨_, rfl, HFIN⟩, HBF.out⟩
end Go.Proofs.YtlocaalipjjnpaaDoor

namespace Go.Proofs.YtlocaalipjjnpaaDoor
open Go.RowKit

theorem small0_fine : Fine (smallL 0) := ⟨by decide, fun i hi => by
  have : i = 0 ∨ i = 1 ∨ i = 2 ∨ i = 3 := by have : (smallL 0).length = 4 := rfl; omega
  rcases this with rfl | rfl | rfl | rfl <;> exact ⟨by decide, by decide, by decide, by decide⟩⟩
theorem smallP_fine : Fine (putP (smallL 0) 2 4) := ⟨by decide, fun i hi => by
  have : i = 0 ∨ i = 1 ∨ i = 2 ∨ i = 3 ∨ i = 4 := by have : (putP (smallL 0) 2 4).length = 5 := rfl; omega
  rcases this with rfl | rfl | rfl | rfl | rfl <;> exact ⟨by decide, by decide, by decide, by decide⟩⟩
set_option maxRecDepth 100000 in
theorem small_ends : endsS (smallL 0) 3 = false := by decide +kernel
set_option maxRecDepth 100000 in
theorem smallP_ends : endsS (putP (smallL 0) 2 4) 3 = true := by decide +kernel
set_option maxRecDepth 100000 in
theorem small_dead : deadS (smallL 0) = [] := by decide +kernel
theorem small_sz : ∀ k, k < 4 → 0 ≤ (nd (smallL 0) k).size ∧ (nd (smallL 0) k).size ≤ 1353245080300 := fun k hk => by
  have : k = 0 ∨ k = 1 ∨ k = 2 ∨ k = 3 := by omega
  rcases this with rfl | rfl | rfl | rfl <;> exact ⟨by decide, by decide⟩

/-- Three lists of their own lie apart. -/
theorem apart3_any (w : World) (base : Nat) (K : List Nat) (v0 v1 v2 : Value) (b1 b2 : Nat) (hK : K.length ≤ 1353245080300) (hbase : base ≤ w.heap.size) (O : Nat) (hO : w.heap[O]? = some (.cells #[v0, v1, v2] 25))
    (h0 : w.ownsRow base 3 1 v0 K.length (iv (nI K))) (h1 : w.ownsRow base 3 1 v1 K.length (iv (nI K))) (h2 : w.ownsRow base 3 1 v2 K.length (iv (nI K)))
    (z0 : K.length = 0 → v0 = .slice none 0 0) (z1 : K.length = 0 → v1 = .slice none 0 0) (z2 : K.length = 0 → v2 = .slice none 0 0)
    (hb12 : b1 ≤ b2) (l0 : ∀ g, v0.ownBlock = some g → g < b1) (g1 : ∀ g, v1.ownBlock = some g → b1 ≤ g ∧ g < b2) (g2 : ∀ g, v2.ownBlock = some g → b2 ≤ g) :
    Calls Tryd.prog 20 #[.slice (some ⟨O, 0, none⟩) 3 3] w fun e w' => e = .returned (.bool true) ∧ Below base w w' := by
  refine ApI.apart_walk w base O 3 (fun k => if k = 0 then v0 else if k = 1 then v1 else v2) (fun _ => K.length) (fun _ => iv (nI K)) (by decide) ⟨⟨_, hO, fun k hk => ?_⟩, fun k hk => ?_⟩ (fun k _ => by rw [iv_len, nI_len]) (fun k hk e => ?_) (fun a b ha hb hab => ?_) (fun _ _ => hK) hbase
  · have : k = 0 ∨ k = 1 ∨ k = 2 := by omega
    rcases this with rfl | rfl | rfl <;> rfl
  · have : k = 0 ∨ k = 1 ∨ k = 2 := by omega
    rcases this with rfl | rfl | rfl
    · exact h0
    · exact h1
    · exact h2
  · have : k = 0 ∨ k = 1 ∨ k = 2 := by omega
    rcases this with rfl | rfl | rfl
    · exact z0 e
    · exact z1 e
    · exact z2 e
  · have key : ∀ {u v : Value}, (∀ g, u.ownBlock = some g → ∀ g', v.ownBlock = some g' → g ≠ g') → u.ownBlock = none ∨ u.ownBlock ≠ v.ownBlock := fun {u v} q => by
      cases hu : u.ownBlock with
      | none => exact .inl rfl
      | some g => exact .inr (fun e => q g hu g e.symm rfl)
    have q01 : ∀ g, v0.ownBlock = some g → ∀ g', v1.ownBlock = some g' → g ≠ g' := fun g a g' b => by have := l0 g a; have := g1 g' b; omega
    have q02 : ∀ g, v0.ownBlock = some g → ∀ g', v2.ownBlock = some g' → g ≠ g' := fun g a g' b => by
      have := l0 g a
      have := g2 g' b
      omega
    have q12 : ∀ g, v1.ownBlock = some g → ∀ g', v2.ownBlock = some g' → g ≠ g' := fun g a g' b => by have := g1 g a; have := g2 g' b; omega
    have ha' : a = 0 ∨ a = 1 ∨ a = 2 := by omega
    have hb' : b = 0 ∨ b = 1 ∨ b = 2 := by omega
    rcases ha' with rfl | rfl | rfl <;> rcases hb' with rfl | rfl | rfl
    all_goals first
      | exact absurd rfl hab
      | exact key q01
      | exact key q02
      | exact key q12
      | exact key (fun g a g' b => Ne.symm (q01 g' b g a))
      | exact key (fun g a g' b => Ne.symm (q02 g' b g a))
      | exact key (fun g a g' b => Ne.symm (q12 g' b g a))
end Go.Proofs.YtlocaalipjjnpaaDoor

namespace Go.Proofs.YtlocaalipjjnpaaDoor
open Go.RowKit

theorem own_eq {w w' : World} {b : Nat} {e : TypeId} {size : Nat} {v : Value} {n : Nat} {xs : List Value} (h : w.ownsRow b e size v n xs) (hk : ∀ g, v.ownBlock = some g → w'.heap[g]? = w.heap[g]?) : w'.ownsRow b e size v n xs := by
  refine ⟨h.1, ?_⟩
  rcases h.2 with q | ⟨g, cap, cur, rfl, h1, h2, h3⟩
  · exact .inl q
  · exact .inr ⟨g, cap, cur, rfl, h1, (hk g rfl).trans h2, h3⟩
theorem dead_len (L : List Nd) : (deadS L).length ≤ L.length := by
  unfold deadS
  split
  · exact Nat.le_trans (List.length_filter_le _ _) (Nat.le_of_eq List.length_range)
  · exact Nat.zero_le _

set_option maxRecDepth 100000 in
set_option maxHeartbeats 4000000 in
theorem flowEnds_any (w : World) (p : Option Addr) (n cap : Nat) (L : List Nd) (h : Arg w p n cap L) (hg : Rng L) (hT : Tbs w) :
    Calls Tryd.prog 5 #[.agg #[.slice p n cap]] w fun e w' => e = .returned (.bool true) ∧ Below w.heap.size w w' := by
  have h2 : 2 ≤ w.heap.size := hT.kw.2
  obtain ⟨w1, hw1, z1, B1, c0⟩ : ∃ w1, w.alloc (.cells #[.slice p n cap] 24) = w1 ∧ w1.heap.size = w.heap.size + 1 ∧ Below w.heap.size w w1 ∧ w1.cell? ⟨w.heap.size, 0, none⟩ = some (.slice p n cap) :=
    ⟨_, rfl, by simp, (Below.refl _ w).alloc (Nat.le_refl _) _, cell_new _ _ _ _ _ rfl⟩
  have HA : Hid (Arg w p n cap L) := h
  have HG : Hid (Rng L) := hg
  have HT : Hid (Tbs w) := hT
  have zz : w.heap.size < w1.heap.size := by omega
  have hn : n ≤ 1353245080300 := by obtain ⟨hf, rfl, _⟩ := h.reads; exact hf.len
  obtain ⟨K, hK⟩ : ∃ K, deadS L = K := ⟨_, rfl⟩
  have hKl : K.length ≤ 1353245080300 := by rw [← hK]; exact Nat.le_trans (dead_len L) (by rw [h.reads.2.1]; exact hn)
  have HK : Hid (deadS L = K) := hK
  clear h hg hT hK z1
  have BB : Hid (Below w.heap.size w w1) := B1
  have TB : Hid (∀ W, Below w1.heap.size w1 W → Tbs W ∧ W.cell? ⟨w.heap.size, 0, none⟩ = some (.slice p n cap) ∧ Below w.heap.size w W) := fun W hW =>
    ⟨HT.out.below (BB.out.trans (hW.mono BB.out.size)) h2, (hW.cell (p := ⟨w.heap.size, 0, none⟩) zz).trans c0, BB.out.trans (hW.mono BB.out.size)⟩
  clear B1 c0
  go_enter Tryd.func5, Tryd.ntmps5
  go_wp2_with fail
  refine (small_any w1).mono ?_
  rintro e w2 ⟨⟨gs, rfl, hsm⟩, hb2⟩
  have E1 := ends_any w2 (some ⟨gs, 0, none⟩) 4 4 (smallL 0) 3 ⟨small0_fine, rfl, fun _ => ⟨gs, 0, rfl, hsm.out.2.1⟩⟩ (TB.out w2 hb2).1.kw
  rw [small_ends] at E1
  go_wp2_with fail
  refine E1.mono ?_
  rintro e w3 ⟨rfl, hb3⟩
  have c3 := hb2.trans (hb3.mono hb2.size)
  clear E1 hsm
  go_wp2_with fail
  refine (small_any w3).mono ?_
  rintro e w4 ⟨⟨gt, rfl, hsm⟩, hb4⟩
  have c4 := c3.trans (hb4.mono c3.size)
  have P1 := put_any w4 (some ⟨gt, 0, none⟩) 4 4 (smallL 0) 2 ⟨small0_fine, rfl, fun _ => ⟨gt, 0, rfl, hsm.out.2.1⟩⟩ (by decide) small_sz
  go_wp2_with fail
  refine P1.mono ?_
  rintro e w5 ⟨⟨v5, rfl, ho5⟩, hb5⟩
  have c5 := c4.trans (hb5.mono c4.size)
  obtain ⟨ov5, cp5, rfl, hg5⟩ := own_formN ho5.out
  obtain ⟨B5, rfl⟩ := hg5 (by decide)
  have E2 := ends_any w5 (some ⟨B5, 0, none⟩) 5 cp5 (putP (smallL 0) 2 4) 3 ⟨smallP_fine, rfl, fun _ => ⟨B5, 0, rfl, (lay_of_own ho5.out).2.1⟩⟩ (TB.out w5 c5).1.kw
  rw [smallP_ends] at E2
  clear P1 hsm hg5
  have h5l : (putP (smallL 0) 2 4).length = 5 := rfl
  rw [h5l]
  clear h5l ho5
  go_wp2_with fail
  refine E2.mono ?_
  rintro e w6 ⟨rfl, hb6⟩
  have c6 := c5.trans (hb6.mono c5.size)
  have t6 := (TB.out w6 c6).2.1
  have D6 := deep_any w6 p n cap L (HA.out.reads.next (TB.out w6 c6).2.2)
  clear E2 hb2 hb3 hb4 hb5 hb6 c3 c4 c5
  go_wp2_with fail
  refine D6.mono ?_
  rintro e w7 ⟨⟨b, rfl⟩, hb7⟩
  have c7 := c6.trans (hb7.mono c6.size)
  clear D6 t6
  cases b with
  | true =>
    go_wp2
    go_ret
    exact ⟨rfl, (TB.out w7 c7).2.2⟩
  | false =>
  have t7 := (TB.out w7 c7).2.1
  have B7 := (TB.out w7 c7).2.2
  have A7 : Arg w7 p n cap L := HA.out.next B7
  have T7 := twin_any w7 p n cap L A7
  clear c6 hb7
  go_wp2_with fail
  refine T7.mono ?_
  rintro e w8 ⟨⟨B, ca, rfl, htw⟩, hb8⟩
  obtain ⟨w9, hw9⟩ : ∃ w9, w8.alloc (.cells #[.slice (some ⟨B, 0, none⟩) n ca] 24) = w9 := ⟨_, rfl⟩
  have b9 : Below w8.heap.size w8 w9 := by rw [← hw9]; exact (Below.refl _ w8).alloc (Nat.le_refl _) _
  have z9 : w8.heap.size < w9.heap.size := by rw [← hw9]; simp
  have b79 := hb8.trans (b9.mono hb8.size)
  have hs7 := c7.size
  have hs8 := hb8.size
  obtain ⟨tB, tc, tl, tt⟩ := htw.out
  have hB8 : B < w8.heap.size := tl.lt
  have a9 : w9.cell? ⟨w8.heap.size, 0, none⟩ = some (.slice (some ⟨B, 0, none⟩) n ca) := by rw [← hw9]; exact cell_new _ _ _ _ _ rfl
  have hB0 : w.heap.size < B := by omega
  have L9 : Lay w9 B 0 (L ++ [spareN]) := tl.next b9
  have R9 : Reads w9 p n L := A7.reads.next b79
  have TT9 : w9.there B 0 (n * 9) := fun j hj => ⟨by rw [b9.cell (by show B < _; omega)]; exact (tt j (by omega)).1, by rw [b9.frozen (by show B < _; omega)]; exact (tt j (by omega)).2⟩
  have c9 : Below w1.heap.size w1 w9 := c7.trans (b79.mono (by omega))
  have H9 : Hid (Lay w9 B 0 (L ++ [spareN]) ∧ w9.there B 0 (n * 9)) := ⟨L9, TT9⟩
  have HCA : Hid (n + 1 ≤ ca) := tc
  -- what holds from here on
  have K9 : Hid (∀ W, Below w9.heap.size w9 W → (Tbs W ∧ W.cell? ⟨w.heap.size, 0, none⟩ = some (.slice p n cap) ∧ Below w.heap.size w W) ∧ Reads W p n L ∧ Reads W (some ⟨B, 0, none⟩) n L ∧ W.cell? ⟨w8.heap.size, 0, none⟩ = some (.slice (some ⟨B, 0, none⟩) n ca) ∧ Below w1.heap.size w1 W) := fun W hW => by
    have hc := c9.trans (hW.mono c9.size)
    exact ⟨TB.out W hc, R9.next hW, ⟨R9.1, R9.2.1, fun _ => ⟨B, 0, rfl, (L9.next hW).pre⟩⟩, (hW.cell (p := ⟨w8.heap.size, 0, none⟩) z9).trans a9, hc⟩
  have hne9 : B ≠ w8.heap.size := by omega
  have hB9 : B < w9.heap.size := by omega
  have h19 : w1.heap.size ≤ w9.heap.size := c9.size
  clear htw tl tt L9 R9 TT9 A7 B7 b9 b79 hb8 t7 T7 a9 c7 c9 tc
  go_wp2_with fail
  clear hw9
  go_loopw [4] (fun v wr => ∃ i : Int, v = .int .i64 i ∧ -1 ≤ i ∧ i ≤ (n : Int) + 1 ∧ Hid (Below w9.heap.size w9 wr)) (fun v _ => ((n : Int) + 1 - intOf v).toNat)
  case atStart => exact ⟨-1, rfl, by omega, by omega, Below.refl _ _⟩
  case round =>
    obtain ⟨i, rfl, hi1, hi2, hB⟩ := hrel
    obtain ⟨⟨tW, k0, -⟩, rW, qW, k1, -⟩ := K9.out _ hB.out
    by_cases hin : i ≤ (n : Int)
    · have i4 : IntKind.i64.wrap (i + 1) = i + 1 := by rw [IntKind.wrap_i64]; omega
      obtain ⟨bb, hbb⟩ : ∃ bb, endsS L i = bb := ⟨_, rfl⟩
      have hs9 := hB.out.size
      have c15 : ∀ d os, Calls Tryd.prog 15 #[.agg #[.slice (some ⟨B, 0, none⟩) n ca], .int .i64 i] (Sort.grow (redrawn wr d) os) fun e w'' => e = .returned (.bool bb) ∧ ∃ z : Regrown, w'' = Sort.grow (redrawn wr z.d) z.os := fun d os => by
        have := ends_any _ _ n ca L i (qW.next (below_regrown wr d os)) (tW.below (below_regrown wr d os) (by omega)).kw
        rw [hbb] at this
        exact Calls.regrown_of this
      have c16 : ∀ d os, Calls Tryd.prog 16 #[.agg #[.slice p n cap], .int .i64 i] (Sort.grow (redrawn wr d) os) fun e w'' => e = .returned (.bool bb) ∧ ∃ z : Regrown, w'' = Sort.grow (redrawn wr z.d) z.os := fun d os => by
        have := rends_any _ _ n cap L i (rW.next (below_regrown wr d os)) (tW.below (below_regrown wr d os) (by omega)).rk HG.out
        rw [hbb] at this
        exact Calls.regrown_of this
      have l0 := cell_regrown k0
      have l1 := cell_regrown k1
      have nb : (bb != bb) = false := by simp
      clear hbb tW rW qW
      go_wp2_with fail
      clear k0 k1
      refine wp_region_quiet_below (by kernel_rfl) (by kernel_rfl) ?_
      repeat (first | go_big_quiet_step (first | with_reducible exact c15 _ _ | with_reducible exact c16 _ _) | quiet_step (first | with_reducible exact c15 _ _ | with_reducible exact c16 _ _))
      refine wpQuiet_nil ?_
      intro _ hw'
      obtain ⟨⟨dq, osq⟩, hw''⟩ := hw'
      subst hw''
      have hY := below_regrown wr dq osq
      change Exit.then _ _ Exit.normal _ (Sort.grow (redrawn wr dq) osq)
      generalize Sort.grow (redrawn wr dq) osq = wY at hY ⊢
      have HBY : Hid (Below w9.heap.size w9 wY) := hB.out.trans (hY.mono hB.out.size)
      clear l0 l1 c15 c16 nb hY hB
      go_wp2
      exact ⟨⟨i + 1, rfl, by omega, by omega, HBY⟩, by simp [intOf]; omega⟩
    obtain rfl : i = (n : Int) + 1 := by omega
    have j1 : ¬ ((n : Int) + 1 ≤ (n : Int)) := by omega
    have D0 := rdead_any wr p n cap L rW tW.rk HG.out
    rw [HK.out] at D0
    clear tW rW qW k1 hi1 hi2 hin
    go_wp2_with fail
    refine D0.mono ?_
    rintro e W1 ⟨⟨vw, rfl, how⟩, bb1⟩
    have C0 := hB.out
    have C1 : Below w9.heap.size w9 W1 := C0.trans (bb1.mono C0.size)
    obtain ⟨⟨t1, -, -⟩, -, q1, k1, -⟩ := K9.out W1 C1
    have D1 := dead_any W1 (some ⟨B, 0, none⟩) n ca L q1 t1.kw
    rw [HK.out] at D1
    clear D0 t1 q1 k0
    go_wp2_with fail
    refine D1.mono ?_
    rintro e W2 ⟨⟨vo, rfl, hoo⟩, bb2⟩
    have C2 : Below w9.heap.size w9 W2 := C1.trans (bb2.mono C1.size)
    have HWO : Hid (∀ W, Below W2.heap.size W2 W → W.ownsRow wr.heap.size 3 1 vw K.length (iv (nI K)) ∧ W.ownsRow W1.heap.size 3 1 vo K.length (iv (nI K)) ∧ Below w9.heap.size w9 W) := fun W hW =>
      ⟨own_on (own_on how.out bb2) hW, own_on hoo.out.1 hW, C2.trans (hW.mono C2.size)⟩
    have hs0 := C0.size
    have hs1 := bb1.size
    have hs2 := bb2.size
    obtain ⟨⟨t2, -, -⟩, -, q2, k2, -⟩ := K9.out W2 C2
    have D2 := dead_any W2 (some ⟨B, 0, none⟩) n ca L q2 t2.kw
    rw [HK.out] at D2
    clear D1 t2 q2 k1 how hoo bb1 bb2 C0 C1 C2
    go_wp2_with fail
    refine D2.mono ?_
    rintro e W3 ⟨⟨vt, rfl, hot⟩, b3⟩
    obtain ⟨otq, ct, rfl, -⟩ := ApI.own_form hot.out.1
    have S3 := sameInts_own W3 _ _ vo vw K hKl (HWO.out W3 b3).2.1 (HWO.out W3 b3).1
    clear D2 k2
    go_wp2_with fail
    refine S3.mono ?_
    rintro e W4 ⟨rfl, b34⟩
    have b4 := b3.trans (b34.mono b3.size)
    have S4 := sameInts_own W4 _ _ (Value.slice otq K.length ct) vw K hKl (own_on hot.out.1 b34) (HWO.out W4 b4).1
    clear S3
    go_wp2_with fail
    refine S4.mono ?_
    rintro e W5 ⟨rfl, b45⟩
    have b5 := b4.trans (b45.mono b4.size)
    have b35 := b34.trans (b45.mono b34.size)
    clear S4 b4 b34 b45
    go_wp2_with fail
    refine (small_any W5).mono ?_
    rintro e W6 ⟨⟨gu, rfl, hsu⟩, b56⟩
    have b6 := b5.trans (b56.mono b5.size)
    have b36 := b35.trans (b56.mono b35.size)
    obtain ⟨⟨t6, -, -⟩, -⟩ := K9.out W6 (HWO.out W6 b6).2.2
    have D6 := dead_any W6 (some ⟨gu, 0, none⟩) 4 4 (smallL 0) ⟨small0_fine, rfl, fun _ => ⟨gu, 0, rfl, hsu.out.2.1⟩⟩ t6.kw
    rw [small_dead] at D6
    clear t6 hsu b5 b35 b56
    go_wp2_with fail
    refine D6.mono ?_
    rintro e W7 ⟨⟨vx, rfl, hox⟩, b67⟩
    obtain rfl := hox.out.2 rfl
    have b7 := b6.trans (b67.mono b6.size)
    have b37 := b36.trans (b67.mono b36.size)
    obtain ⟨⟨t7, -, -⟩, -, q7, k7, -⟩ := K9.out W7 (HWO.out W7 b7).2.2
    have D7 := dead_any W7 (some ⟨B, 0, none⟩) n ca L q7 t7.kw
    rw [HK.out] at D7
    clear D6 hox b6 b36 b67 t7 q7
    go_wp2_with fail
    refine D7.mono ?_
    rintro e W8 ⟨⟨vr, rfl, hor⟩, b78⟩
    obtain ⟨orq, cr, rfl, -⟩ := ApI.own_form hor.out.1
    have b8 := b7.trans (b78.mono b7.size)
    obtain ⟨⟨t8, -, -⟩, -, q8, k8, -⟩ := K9.out W8 (HWO.out W8 b8).2.2
    have D8 := dead_any W8 (some ⟨B, 0, none⟩) n ca L q8 t8.kw
    rw [HK.out] at D8
    clear D7 t8 q8 k7
    go_wp2_with fail
    refine D8.mono ?_
    rintro e V ⟨⟨vf, rfl, hof⟩, b8V⟩
    obtain ⟨ofq, cf, rfl, -⟩ := ApI.own_form hof.out.1
    have bV := b8.trans (b8V.mono b8.size)
    have b3V : Below W3.heap.size W3 V := (b37.trans (b78.mono b37.size)).trans (b8V.mono (by have := b37.size; have := b78.size; omega))
    have HV : Hid (∀ W, Below V.heap.size V W → (W.ownsRow W2.heap.size 3 1 (Value.slice otq K.length ct) K.length (iv (nI K)) ∧ W.ownsRow W7.heap.size 3 1 (Value.slice orq K.length cr) K.length (iv (nI K)) ∧ W.ownsRow W8.heap.size 3 1 (Value.slice ofq K.length cf) K.length (iv (nI K))) ∧ Below W2.heap.size W2 W) := fun W hW =>
      ⟨⟨own_on (own_on hot.out.1 b3V) hW, own_on (own_on hor.out.1 b8V) hW, own_on hof.out.1 hW⟩, bV.trans (hW.mono bV.size)⟩
    have HNL : Hid ((K.length = 0 → (Value.slice otq K.length ct) = .slice none 0 0) ∧ (K.length = 0 → (Value.slice orq K.length cr) = .slice none 0 0) ∧ (K.length = 0 → (Value.slice ofq K.length cf) = .slice none 0 0)) := ⟨hot.out.2, hor.out.2, hof.out.2⟩
    have HBK : Hid ((∀ g, (Value.slice otq K.length ct).ownBlock = some g → g < W7.heap.size) ∧ (∀ g, (Value.slice orq K.length cr).ownBlock = some g → W7.heap.size ≤ g ∧ g < W8.heap.size) ∧ (∀ g, (Value.slice ofq K.length cf).ownBlock = some g → W8.heap.size ≤ g)) :=
      ⟨fun g e => Nat.lt_of_lt_of_le (hot.out.1.lt g e).2 b37.size, fun g e => hor.out.1.lt g e, fun g e => (hof.out.1.lt g e).1⟩
    have hz78 := b78.size
    have hz27 := b7.size
    have hz8V := b8V.size
    have S9 := sameInts_own V _ _ (Value.slice orq K.length cr) vw K hKl (HV.out V (Below.refl _ _)).1.2.1 (HWO.out V bV).1
    clear D8 k8 b78 b8 b8V bV b3V b37 b7 b3 hot hor hof
    have n0 : ((0 : Int) != 0) = false := rfl
    go_wp2_with fail
    refine S9.mono ?_
    rintro e V1 ⟨rfl, d1⟩
    have S10 := sameInts_own V1 _ _ (Value.slice ofq K.length cf) vw K hKl (HV.out V1 d1).1.2.2 (HWO.out V1 (HV.out V1 d1).2).1
    clear S9 n0
    go_wp2_with fail
    refine S10.mono ?_
    rintro e V2 ⟨rfl, d12⟩
    have d2 := d1.trans (d12.mono d1.size)
    obtain ⟨V3, hV3⟩ : ∃ V3, V2.alloc (.cells #[(Value.slice otq K.length ct), (Value.slice orq K.length cr), (Value.slice ofq K.length cf)] 25) = V3 := ⟨_, rfl⟩
    have d23 : Below V2.heap.size V2 V3 := by rw [← hV3]; exact (Below.refl _ V2).alloc (Nat.le_refl _) _
    have d3 := d2.trans (d23.mono d2.size)
    obtain ⟨⟨x0, x1, x2⟩, x3⟩ := HV.out V3 d3
    have A3 := apart3_any V3 W2.heap.size K (Value.slice otq K.length ct) (Value.slice orq K.length cr) (Value.slice ofq K.length cf) W7.heap.size W8.heap.size hKl x3.size V2.heap.size (by rw [← hV3, hgAlloc, if_pos rfl]) x0 (own_base x1 hz27) (own_base x2 (by omega)) HNL.out.1 HNL.out.2.1 HNL.out.2.2 hz78 HBK.out.1 HBK.out.2.1 HBK.out.2.2
    clear S10 d1 d12 d2 d23 d3 x0 x1 x2
    go_wp2_with fail
    refine A3.mono ?_
    rintro e V4 ⟨rfl, d34⟩
    have d4 : Below W2.heap.size W2 V4 := x3.trans d34
    have S12 := sameInts_own V4 _ _ vo vw K hKl (HWO.out V4 d4).2.1 (HWO.out V4 d4).1
    clear A3 hV3 d34 x3 HV HNL HBK
    go_wp2_with fail
    refine S12.mono ?_
    rintro e V5 ⟨rfl, d45⟩
    have d5 := d4.trans (d45.mono d4.size)
    obtain ⟨⟨t5, -, -⟩, -, q5, k5, -⟩ := K9.out V5 (HWO.out V5 d5).2.2
    have D5 := dead_any V5 (some ⟨B, 0, none⟩) n ca L q5 t5.kw
    rw [HK.out] at D5
    clear S12 d4 d45 t5 q5
    go_wp2_with fail
    refine D5.mono ?_
    rintro e V6 ⟨⟨vy, rfl, hoy⟩, d56⟩
    have d6 := d5.trans (d56.mono d5.size)
    have S13 := sameInts_own V6 _ _ vy vw K hKl hoy.out.1 (HWO.out V6 d6).1
    clear D5 k5 d5 d56
    go_wp2_with fail
    refine S13.mono ?_
    rintro e V7 ⟨rfl, d67⟩
    have d7 := d6.trans (d67.mono d6.size)
    have C7 := (HWO.out V7 d7).2.2
    obtain ⟨⟨-, k7, -⟩, r7, -, k8, -⟩ := K9.out V7 C7
    have U7 := untouched_any V7 B ca p n cap L r7 (H9.out.1.next C7) HCA.out
    clear S13 d6 d67 hoy r7 C7
    go_wp2_with fail
    refine U7.mono ?_
    rintro e V8 ⟨rfl, d78⟩
    have d8 := d7.trans (d78.mono d7.size)
    have C8 := (HWO.out V8 d8).2.2
    obtain ⟨⟨-, k9, BV8⟩, r8, -, k10, -⟩ := K9.out V8 C8
    have TU := turned_any V8 B n ca L r8.1 HG.out r8.2.1 (H9.out.1.pre.next C8) (fun j hj => ⟨by rw [C8.cell (by show B < _; omega)]; exact (H9.out.2 j hj).1, by rw [C8.frozen (by show B < _; omega)]; exact (H9.out.2 j hj).2⟩)
    have hs8V := C8.size
    have hs2V := d8.size
    obtain ⟨o1, o2, -⟩ := HWO.out V8 d8
    have HO8 : Hid (V8.ownsRow wr.heap.size 3 1 vw K.length (iv (nI K)) ∧ V8.ownsRow W1.heap.size 3 1 vo K.length (iv (nI K))) := ⟨o1, o2⟩
    have HK9 : Hid (V8.cell? ⟨w.heap.size, 0, none⟩ = some (.slice p n cap) ∧ V8.cell? ⟨w8.heap.size, 0, none⟩ = some (.slice (some ⟨B, 0, none⟩) n ca) ∧ Below w.heap.size w V8) := ⟨k9, k10, BV8⟩
    clear U7 k7 k8 k9 d7 d78 r8 C8 o1 o2 d8 BV8 HWO K9 H9 HCA
    go_wp2_with fail
    refine TU.mono ?_
    rintro e w10 ⟨⟨v10, rfl⟩, ⟨L', f', r', l', y'⟩, g10⟩
    have hB10 : ∀ g, wr.heap.size ≤ g → g < V8.heap.size → w10.heap[g]? = V8.heap[g]? := fun g h1 h2 => g10.block g h2 (fun e => by cases e; omega)
    have HO10 : Hid (w10.ownsRow wr.heap.size 3 1 vw K.length (iv (nI K)) ∧ w10.ownsRow W1.heap.size 3 1 vo K.length (iv (nI K))) :=
      ⟨own_eq HO8.out.1 (fun g e => hB10 g (HO8.out.1.lt g e).1 (HO8.out.1.lt g e).2), own_eq HO8.out.2 (fun g e => hB10 g (Nat.le_trans hs1 (HO8.out.2.lt g e).1) (HO8.out.2.lt g e).2)⟩
    have a10 : w10.cell? ⟨w8.heap.size, 0, none⟩ = some (.slice (some ⟨B, 0, none⟩) n ca) := (World.cell?_of_block (a := ⟨w8.heap.size, 0, none⟩) (g10.block w8.heap.size (by omega) (fun e => hne9 (by cases e; rfl)))).trans HK9.out.2.1
    have p10 : w10.cell? ⟨w.heap.size, 0, none⟩ = some (.slice p n cap) := (World.cell?_of_block (a := ⟨w.heap.size, 0, none⟩) (g10.block w.heap.size (by omega) (fun e => by cases e; omega))).trans HK9.out.1
    have B10 : Below w.heap.size w w10 := HK9.out.2.2.grown g10 (by omega) (fun k e => by cases e; omega)
    have T10 : Tbs w10 := HT.out.below B10 h2
    have l10 : w8.heap.size < w10.heap.size := by have := g10.size; omega
    have A10 : Arg w10 (some ⟨B, 0, none⟩) n ca L' := ⟨⟨f', l', fun _ => ⟨B, 0, rfl, y'⟩⟩, fun e => by cases e⟩
    have TW := twin_any w10 (some ⟨B, 0, none⟩) n ca L' A10
    clear TU HO8 HK9 hB10
    go_wp2_with fail
    refine TW.mono ?_
    rintro e w11 ⟨⟨B2, cb, rfl, htw⟩, hb11⟩
    obtain ⟨w12, hw12⟩ : ∃ w12, w11.alloc (.cells #[.slice (some ⟨B2, 0, none⟩) n cb] 24) = w12 := ⟨_, rfl⟩
    have b12 : Below w11.heap.size w11 w12 := by rw [← hw12]; exact (Below.refl _ w11).alloc (Nat.le_refl _) _
    have b1012 := hb11.trans (b12.mono hb11.size)
    have hs11 := hb11.size
    have e12 : w12.cell? ⟨w11.heap.size, 0, none⟩ = some (.slice (some ⟨B2, 0, none⟩) n cb) := by rw [← hw12]; exact cell_new _ _ _ _ _ rfl
    have z12 : w11.heap.size < w12.heap.size := by rw [← hw12]; simp
    have R12 : Reads w12 (some ⟨B, 0, none⟩) n L' := A10.reads.next b1012
    have Q12 : Reads w12 (some ⟨B2, 0, none⟩) n L' := ⟨f', l', fun _ => ⟨B2, 0, rfl, (htw.out.2.2.1.next b12).pre⟩⟩
    have K12 : Hid (∀ W, Below w12.heap.size w12 W → (Tbs W ∧ W.cell? ⟨w.heap.size, 0, none⟩ = some (.slice p n cap) ∧ Below w.heap.size w W) ∧ Reads W (some ⟨B, 0, none⟩) n L' ∧ Reads W (some ⟨B2, 0, none⟩) n L' ∧ (W.cell? ⟨w8.heap.size, 0, none⟩ = some (.slice (some ⟨B, 0, none⟩) n ca) ∧ W.cell? ⟨w11.heap.size, 0, none⟩ = some (.slice (some ⟨B2, 0, none⟩) n cb)) ∧ W.ownsRow wr.heap.size 3 1 vw K.length (iv (nI K)) ∧ W.ownsRow W1.heap.size 3 1 vo K.length (iv (nI K))) := fun W hW => by
      have hx := b1012.trans (hW.mono b1012.size)
      have hx2 : Below w.heap.size w W := B10.trans (hx.mono (by have := B10.size; omega))
      exact ⟨⟨HT.out.below hx2 h2, (hx.cell (p := ⟨w.heap.size, 0, none⟩) (by show w.heap.size < _; omega)).trans p10, hx2⟩, R12.next hW, Q12.next hW, ⟨(hx.cell (p := ⟨w8.heap.size, 0, none⟩) l10).trans a10, (hW.cell (p := ⟨w11.heap.size, 0, none⟩) z12).trans e12⟩, own_on HO10.out.1 hx, own_on HO10.out.2 hx⟩
    have HR' : Hid (Rng L') := r'
    obtain ⟨K2, hK2⟩ : ∃ K2, deadS L' = K2 := ⟨_, rfl⟩
    have hK2l : K2.length ≤ 1353245080300 := by rw [← hK2]; exact Nat.le_trans (dead_len L') (by rw [l']; exact hn)
    have HK2 : Hid (deadS L' = K2) := hK2
    clear htw R12 Q12 A10 T10 B10 b12 b1012 hb11 a10 p10 g10 y' l' r' f' TW e12 hK2 HO10
    go_wp2_with fail
    clear hw12
    go_loopw [12] (fun v wr => ∃ i : Int, v = .int .i64 i ∧ -1 ≤ i ∧ i ≤ (n : Int) + 1 ∧ Hid (Below w12.heap.size w12 wr)) (fun v _ => ((n : Int) + 1 - intOf v).toNat)
    case atStart => exact ⟨-1, rfl, by omega, by omega, Below.refl _ _⟩
    case round =>
      obtain ⟨i, rfl, hi1, hi2, hB⟩ := hrel
      obtain ⟨⟨tW, k0, kB⟩, rW, qW, ⟨k1, k2⟩, -⟩ := K12.out _ hB.out
      have hs12 := hB.out.size
      by_cases hin : i ≤ (n : Int)
      · have i4 : IntKind.i64.wrap (i + 1) = i + 1 := by rw [IntKind.wrap_i64]; omega
        obtain ⟨bb, hbb⟩ : ∃ bb, endsS L' i = bb := ⟨_, rfl⟩
        have c15 : ∀ d os, Calls Tryd.prog 15 #[.agg #[.slice (some ⟨B, 0, none⟩) n ca], .int .i64 i] (Sort.grow (redrawn wr d) os) fun e w'' => e = .returned (.bool bb) ∧ ∃ z : Regrown, w'' = Sort.grow (redrawn wr z.d) z.os := fun d os => by
          have := ends_any _ _ n ca L' i (rW.next (below_regrown wr d os)) (tW.below (below_regrown wr d os) (by omega)).kw
          rw [hbb] at this
          exact Calls.regrown_of this
        have c16 : ∀ d os, Calls Tryd.prog 16 #[.agg #[.slice (some ⟨B2, 0, none⟩) n cb], .int .i64 i] (Sort.grow (redrawn wr d) os) fun e w'' => e = .returned (.bool bb) ∧ ∃ z : Regrown, w'' = Sort.grow (redrawn wr z.d) z.os := fun d os => by
          have := rends_any _ _ n cb L' i (qW.next (below_regrown wr d os)) (tW.below (below_regrown wr d os) (by omega)).rk HR'.out
          rw [hbb] at this
          exact Calls.regrown_of this
        have l0 := cell_regrown k0
        have l1 := cell_regrown k1
        have l2 := cell_regrown k2
        have nb : (bb != bb) = false := by simp
        clear hbb tW rW qW kB
        go_wp2_with fail
        clear k0 k1 k2
        refine wp_region_quiet_below (by kernel_rfl) (by kernel_rfl) ?_
        repeat (first | go_big_quiet_step (first | with_reducible exact c15 _ _ | with_reducible exact c16 _ _) | quiet_step (first | with_reducible exact c15 _ _ | with_reducible exact c16 _ _))
        refine wpQuiet_nil ?_
        intro _ hw'
        obtain ⟨⟨dq, osq⟩, hw''⟩ := hw'
        subst hw''
        have hY := below_regrown wr dq osq
        change Exit.then _ _ Exit.normal _ (Sort.grow (redrawn wr dq) osq)
        generalize Sort.grow (redrawn wr dq) osq = wY at hY ⊢
        have HBY : Hid (Below w12.heap.size w12 wY) := hB.out.trans (hY.mono hB.out.size)
        clear l0 l1 l2 c15 c16 nb hY hB
        go_wp2
        exact ⟨⟨i + 1, rfl, by omega, by omega, HBY⟩, by simp [intOf]; omega⟩
      obtain rfl : i = (n : Int) + 1 := by omega
      have HN12 : Hid (∀ W, Below wr.heap.size wr W → Below w12.heap.size w12 W) := fun W hW => hB.out.trans (hW.mono hB.out.size)
      have HD18 : Hid (∀ W, Below wr.heap.size wr W → Calls Tryd.prog 18 #[.agg #[.slice (some ⟨B, 0, none⟩) n ca]] W fun e w' => (∃ v, e = .returned v ∧ Hid (w'.ownsRow W.heap.size 3 1 v K2.length (iv (nI K2)))) ∧ Below W.heap.size W w') := fun W hW => by
        obtain ⟨⟨tW, -, -⟩, rW, -, -⟩ := K12.out _ (HN12.out W hW)
        have := dead_any W (some ⟨B, 0, none⟩) n ca L' rW tW.kw
        rw [HK2.out] at this
        exact this.mono fun e w' ⟨⟨v, e1, e2⟩, e3⟩ => ⟨⟨v, e1, e2.out.1⟩, e3⟩
      have HD17 : Hid (∀ W, Below wr.heap.size wr W → Calls Tryd.prog 17 #[.agg #[.slice (some ⟨B2, 0, none⟩) n cb]] W fun e w' => (∃ v, e = .returned v ∧ Hid (w'.ownsRow W.heap.size 3 1 v K2.length (iv (nI K2)))) ∧ Below W.heap.size W w') := fun W hW => by
        obtain ⟨⟨tW, -, -⟩, -, rW, -⟩ := K12.out _ (HN12.out W hW)
        have := rdead_any W (some ⟨B2, 0, none⟩) n cb L' rW tW.rk HR'.out
        rw [HK2.out] at this
        exact this
      have HS19 : Hid (∀ W, Below wr.heap.size wr W → Calls Tryd.prog 19 #[vo, vw] W fun e w' => e = .returned (.bool true) ∧ Below W.heap.size W w') := fun W hW => by
        obtain ⟨-, -, -, -, o1, o2⟩ := K12.out _ (HN12.out W hW)
        exact sameInts_own W _ _ vo vw K hKl o2 o1
      have SV : Hid (∀ W, Below wr.heap.size wr W → W.cell? ⟨w8.heap.size, 0, none⟩ = some (.slice (some ⟨B, 0, none⟩) n ca) ∧ W.cell? ⟨w11.heap.size, 0, none⟩ = some (.slice (some ⟨B2, 0, none⟩) n cb) ∧ Below wr.heap.size wr W) := fun W hW => by
        obtain ⟨-, -, -, ⟨k1, k2⟩, -⟩ := K12.out _ (HN12.out W hW)
        exact ⟨k1, k2, hW⟩
      have HKB : Hid (Below w.heap.size w wr) := kB
      have hcd : Below wr.heap.size wr wr.drew := (Below.refl _ _).drew
      have hwrz := kB.size
      clear tW rW qW kB hB hin hi1 hi2
      go_wp2_with fail
      clear k0
      go_region_held3 (fun w' => w'.cell? ⟨w8.heap.size, 0, none⟩ = some (.slice (some ⟨B, 0, none⟩) n ca) ∧ w'.cell? ⟨w11.heap.size, 0, none⟩ = some (.slice (some ⟨B2, 0, none⟩) n cb) ∧ Below wr.heap.size wr w') (exact SV.out _ (by assumption))
        (first
        | (go_at_call 18; refine (HD18.out _ hcd).mono ?_; rintro e wa ⟨⟨va, rfl, hoa⟩, hba⟩; replace hcd := hcd.trans (hba.mono hcd.size))
        | (go_at_call 17; refine (HD17.out _ hcd).mono ?_; rintro e wb ⟨⟨vb, rfl, hob⟩, hbb⟩; replace hcd := hcd.trans (hbb.mono hcd.size))
        | (go_at_call 19; have hbc' := hbc; refine (HS19.out _ hcd).mono ?_; rintro e wd ⟨rfl, hbd⟩; replace hcd := hcd.trans (hbd.mono hcd.size); clear hbc')
        | (go_at_call 19; first
          | (have ho1 := own_on hoa.out hbb; have ho2 := hob.out; refine (sameInts_own wb _ _ va vb K2 hK2l ho1 ho2).mono ?_; rintro e wc ⟨rfl, hbc⟩; replace hcd := hcd.trans (hbc.mono hcd.size))
          | (have ho1 := own_on hob.out hba; have ho2 := hoa.out; refine (sameInts_own wa _ _ va vb K2 hK2l ho2 ho1).mono ?_; rintro e wc ⟨rfl, hbc⟩; replace hcd := hcd.trans (hbc.mono hcd.size))))
      all_goals
        go_wp2
        go_ret
        exact ⟨rfl, HKB.out.trans (hcd.mono hwrz)⟩
end Go.Proofs.YtlocaalipjjnpaaDoor
