import Derived.Deep.RegionHeld3
import Derived.Laws.OwnMore
import Derived.Test.YtlocaalipjjnpaaDoorN09
import Derived.Test.YtlocaalipjjnpaaDoorN22
import Derived.Test.YtlocaalipjjnpaaDoorN00
namespace Go.Proofs.YtlocaalipjjnpaaDoor
open Go.RowKit
theorem own_base {w : World} {b c : Nat} {e : TypeId} {size : Nat} {v : Value} {n : Nat} {xs : List Value} (h : w.ownsRow b e size v n xs) (hc : c ≤ b) : w.ownsRow c e size v n xs := by
  refine ⟨h.1, ?_⟩
  rcases h.2 with h | ⟨g, cap, cur, h1, h2, h3⟩
  · exact .inl h
  · exact .inr ⟨g, cap, cur, h1, Nat.le_trans hc h2, h3⟩


/-- The hook that is put in. -/
def hookN : Nd := ⟨16, 0, ⟨#[]⟩, ⟨#[]⟩, ⟨#[]⟩, 0, 1, ⟨#[]⟩, 1⟩
def incN (n k : Nat) (y : Nd) : Nd := if k ≤ n ∧ (n : Int) < (k : Int) + y.size then { y with size := y.size + 1 } else y
/-- The first k nodes, with the hook behind the node n. -/
def putP (L : List Nd) (n : Nat) : Nat → List Nd
  | 0 => []
  | k + 1 => (putP L n k ++ [incN n k (nd L k)]) ++ if k = n then [hookN] else []
theorem putP_len (L : List Nd) (n : Nat) : ∀ k, (putP L n k).length = k + if n < k then 1 else 0
  | 0 => by simp [putP]
  | k + 1 => by
    unfold putP
    rw [List.length_append, List.length_append, putP_len L n k]
    by_cases h1 : k = n
    · subst h1
      simp
    · rw [if_neg h1]
      by_cases h2 : n < k
      · rw [if_pos h2, if_pos (by omega)]; simp
      · rw [if_neg h2, if_neg (by omega)]; simp

/-- A row that lies below what may have turned. -/
theorem own_low {w w' : World} {base b : Nat} {e : TypeId} {size : Nat} {v : Value} {n : Nat} {xs : List Value} (h : w.ownsRow b e size v n xs) (hlt : ∀ g, v.ownBlock = some g → g < base) (hb : Below base w w') : w'.ownsRow b e size v n xs := by
  refine ⟨h.1, ?_⟩
  rcases h.2 with q | ⟨g, cap, cur, rfl, h1, h2, h3⟩
  · exact .inl q
  · exact .inr ⟨g, cap, cur, rfl, h1, (hb.block g (hlt g rfl)).trans h2, h3⟩
theorem own_on {w w' : World} {b : Nat} {e : TypeId} {size : Nat} {v : Value} {n : Nat} {xs : List Value} (h : w.ownsRow b e size v n xs) (hb : Below w.heap.size w w') : w'.ownsRow b e size v n xs := own_low h (fun g hg => (h.lt g hg).2) hb
theorem own_set {w : World} {b : Nat} {e : TypeId} {size : Nat} {v : Value} {n : Nat} {xs : List Value} (h : w.ownsRow b e size v n xs) (g o : Nat) (u : Value) (hne : v.ownBlock ≠ some g) : (w.setCell ⟨g, o, none⟩ u).ownsRow b e size v n xs := by
  refine ⟨h.1, ?_⟩
  rcases h.2 with q | ⟨g', cap, cur, rfl, h1, h2, h3⟩
  · exact .inl q
  · exact .inr ⟨g', cap, cur, rfl, h1, (Below.heap_setCell _ _ _ _ (fun e => hne (by rw [e]; rfl))).trans h2, h3⟩

theorem run_app9 (w : World) (base : Nat) (v : Value) (l : List Nd) (y : Nd) (hown : w.ownsRow base 39 9 v l.length (flat l)) (H : Nat) (hH : w.heap[H]? = some (.cells (ndV y) 39)) (h40 : l.length + 1 ≤ 1353245080301) (hbase : base ≤ w.heap.size) :
    ∃ v' w', (Builtin.append_ #[22, 22] 22 #[v, .slice (some ⟨H, 0, none⟩) 1 1]).run Tryd.prog w = .ok v' w' ∧ w'.ownsRow base 39 9 v' (l ++ [y]).length (flat (l ++ [y])) ∧ Below base w w' := by
  obtain ⟨i0, hi, hz0, hz1, hz2⟩ := info_parts info36
  obtain ⟨v', w', hr, h2, h3, _⟩ := run_append_own (P := Tryd.prog) w base 22 22 39 i0 _ 9 104 Tryd.underlying22 hi hz0 hz1 hz2 rfl (by decide) v l.length (flat l) hown ⟨H, 0, none⟩ 1 1 (ndV y).toList rfl (fun j u hu => by
      rw [show (⟨H, 0, none⟩ : Addr).add j = ⟨H, j, none⟩ by by_cases hj : j = 0 <;> simp [Addr.add, hj]]
      exact (cell_block hH (by simpa using hu)).1) (by
      intro u hu
      unfold ndV at hu
      simp only [List.mem_cons, List.not_mem_nil, or_false] at hu
      rcases hu with rfl | rfl | rfl | rfl | rfl | rfl | rfl | rfl | rfl <;> rfl) (by unfold maxLen; omega) (by omega) hbase
  refine ⟨v', w', hr, ?_, (Below.refl _ w).grown h3 hbase (own_ge hown)⟩
  rw [flat_app, flat_sing, List.length_append]
  exact h2

theorem own_formN {W : World} {base n : Nat} {u : Value} {xs : List Value} (h : W.ownsRow base 39 9 u n xs) : ∃ ov cap, u = .slice ov n cap ∧ (0 < n → ∃ g, ov = some ⟨g, 0, none⟩) := by
  rcases h.2 with ⟨rfl, rfl⟩ | ⟨g, cap, _, rfl, _⟩
  · exact ⟨none, 0, rfl, fun h => absurd h (Nat.lt_irrefl _)⟩
  · exact ⟨_, cap, rfl, fun _ => ⟨g, rfl⟩⟩

set_option maxRecDepth 100000 in
set_option maxHeartbeats 2000000 in
theorem put_any (w : World) (p : Option Addr) (m cap : Nat) (L : List Nd) (n : Nat) (h : Reads w p m L) (hm : m ≤ 1353245080299) (hsz : ∀ k, k < m → 0 ≤ (nd L k).size ∧ (nd L k).size ≤ 1353245080300) :
    Calls Tryd.prog 8 #[.agg #[.slice p m cap], .int .i64 (n : Int)] w fun e w' => (∃ v, e = .returned (.agg #[v]) ∧ Hid (w'.ownsRow w.heap.size 39 9 v (putP L n m).length (flat (putP L n m)))) ∧ Below w.heap.size w w' := by
  obtain ⟨w1, hw1, z1, B1, c0⟩ : ∃ w1, (w.alloc (.cells #[.slice p m cap] 24)).alloc (.cells #[.slice none 0 0] 24) = w1 ∧ w1.heap.size = w.heap.size + 2 ∧ Below w.heap.size w w1 ∧ w1.cell? ⟨w.heap.size, 0, none⟩ = some (.slice p m cap) :=
    ⟨_, rfl, by simp, ((Below.refl _ w).alloc (Nat.le_refl _) _).alloc (by simp) _, cell_old _ (cell_new _ _ _ _ _ rfl)⟩
  have hc : w1.heap[w.heap.size + 1]? = some (.cells #[.slice none 0 0] 24) := by rw [← hw1]; simp only [hgAlloc, World.size_alloc]; rw [if_pos (by first | trivial | omega)]
  have c1 : w1.cell? ⟨w.heap.size + 1, 0, none⟩ = some (.slice none 0 0) ∧ w1.frozen? ⟨w.heap.size + 1, 0, none⟩ = false := cell_block (k := 0) hc rfl
  have BB : Hid (Below w.heap.size w w1) := B1
  have HR : Hid (Reads w1 p m L) := h.next B1
  have HSZ : Hid (∀ k, k < m → 0 ≤ (nd L k).size ∧ (nd L k).size ≤ 1353245080300) := hsz
  have HC1 : Hid (w1.cell? ⟨w.heap.size + 1, 0, none⟩ = some (.slice none 0 0) ∧ w1.frozen? ⟨w.heap.size + 1, 0, none⟩ = false) := c1
  clear h B1 hc c1 hsz
  go_enter Tryd.func8, Tryd.ntmps8
  go_wp2
  go_loopw [5, 11] (fun v5 v11 wr => ∃ k : Nat, v11 = .int .i64 (k : Int) ∧ k ≤ m ∧ Hid (wr.ownsRow w1.heap.size 39 9 v5 (putP L n k).length (flat (putP L n k))) ∧ Hid (Below w1.heap.size w1 wr)) (fun _ v _ => m - (intOf v).toNat)
  case atStart => exact ⟨0, rfl, Nat.zero_le _, World.ownsRow_nil _ _ _ _, Below.refl _ _⟩
  case round =>
    obtain ⟨k, rfl, hk, hO, hB⟩ := hrel
    have d0 := (hB.out.cell (p := ⟨w.heap.size, 0, none⟩) (by show w.heap.size < _; omega)).trans c0
    by_cases hlt : k < m
    · have j0 : (0 : Int) ≤ (k : Int) := by omega
      have j1 : (k : Int) < (m : Int) := by omega
      have i4 : IntKind.i64.wrap ((k : Int) + 1) = (k : Int) + 1 := by rw [IntKind.wrap_i64]; omega
      obtain ⟨hf, hlen, hr⟩ := HR.out
      obtain ⟨g, o, rfl, hl⟩ := hr (fun e => by rw [e] at hlen; simp at hlen; omega)
      have cs := (hl.next hB.out).c k (by omega)
      have hs := HSZ.out k hlt
      have hPL : (putP L n k).length ≤ k + 1 := by rw [putP_len]; split <;> omega
      obtain ⟨M, hM⟩ : ∃ M, putP L n k = M := ⟨_, rfl⟩
      have hst : putP L n (k + 1) = (putP L n k ++ [incN n k (nd L k)]) ++ if k = n then [hookN] else [] := rfl
      obtain ⟨y, hy⟩ : ∃ y, nd L k = y := ⟨_, rfl⟩
      unfold incN at hst
      rw [hy] at cs hs hst
      rw [hM] at hO hPL hst
      have HST : Hid (putP L n (k + 1) = (M ++ [if k ≤ n ∧ (n : Int) < (k : Int) + y.size then { y with size := y.size + 1 } else y]) ++ if k = n then [hookN] else []) := hst
      clear hst hf hlen hr hl hM hy
      obtain ⟨q0, q1, q2, q3, q4, q5, q6, q7, q8⟩ := y
      have e0 : wr.cell? ⟨g, o + k * 9, none⟩ = some (.int .i64 q0) := cs 0 _ rfl
      have e1 : wr.cell? ⟨g, o + k * 9 + 1, none⟩ = some (.int .i64 q1) := cs 1 _ rfl
      have e2 : wr.cell? ⟨g, o + k * 9 + 2, none⟩ = some (.string q2) := cs 2 _ rfl
      have e3 : wr.cell? ⟨g, o + k * 9 + 3, none⟩ = some (.string q3) := cs 3 _ rfl
      have e4 : wr.cell? ⟨g, o + k * 9 + 4, none⟩ = some (.string q4) := cs 4 _ rfl
      have e5 : wr.cell? ⟨g, o + k * 9 + 5, none⟩ = some (.int .i64 q5) := cs 5 _ rfl
      have e6 : wr.cell? ⟨g, o + k * 9 + 6, none⟩ = some (.int .i64 q6) := cs 6 _ rfl
      have e7 : wr.cell? ⟨g, o + k * 9 + 7, none⟩ = some (.string q7) := cs 7 _ rfl
      have e8 : wr.cell? ⟨g, o + k * 9 + 8, none⟩ = some (.int .i64 q8) := cs 8 _ rfl
      simp only at hs
      have i5 : IntKind.i64.wrap ((k : Int) + q8) = (k : Int) + q8 := by rw [IntKind.wrap_i64]; omega
      have i6 : IntKind.i64.wrap (q8 + 1) = q8 + 1 := by rw [IntKind.wrap_i64]; omega
      obtain ⟨wa, hwa⟩ : ∃ wa, wr.alloc (.cells #[.int .i64 q0, .int .i64 q1, .string q2, .string q3, .string q4, .int .i64 q5, .int .i64 q6, .string q7, .int .i64 q8] 39) = wa := ⟨_, rfl⟩
      have ba : Below wr.heap.size wr wa := by rw [← hwa]; exact (Below.refl _ wr).alloc (Nat.le_refl _) _
      have za : wa.heap.size = wr.heap.size + 1 := by rw [← hwa]; simp
      have ha : wa.heap[wr.heap.size]? = some (.cells #[.int .i64 q0, .int .i64 q1, .string q2, .string q3, .string q4, .int .i64 q5, .int .i64 q6, .string q7, .int .i64 q8] 39) := by rw [← hwa, hgAlloc, if_pos rfl]
      have x0 := (cell_block (k := 0) ha rfl).1
      have x1 := (cell_block (k := 1) ha rfl).1
      have x2 := (cell_block (k := 2) ha rfl).1
      have x3 := (cell_block (k := 3) ha rfl).1
      have x4 := (cell_block (k := 4) ha rfl).1
      have x5 := (cell_block (k := 5) ha rfl).1
      have x6 := (cell_block (k := 6) ha rfl).1
      have x7 := (cell_block (k := 7) ha rfl).1
      have x8 := (cell_block (k := 8) ha rfl).1
      have f8 := (cell_block (k := 8) ha rfl).2
      have hzs := hB.out.size
      have HLT : Hid (∀ b, u5.ownBlock = some b → b < wr.heap.size) := fun b hb => (hO.out.lt b hb).2
      have HOa : Hid (wa.ownsRow w1.heap.size 39 9 u5 M.length (flat M)) := own_on hO.out ba
      have HBA : Hid (Below w1.heap.size w1 wa) := hB.out.trans (ba.mono hB.out.size)
      have HZA : Hid (wa.heap.size = wr.heap.size + 1) := za
      clear cs ha hO hB za
      by_cases hinc : k ≤ n ∧ (n : Int) < (k : Int) + q8
      · have t1 : (k : Int) ≤ (n : Int) := by omega
        have t2 : (n : Int) < (k : Int) + q8 := hinc.2
        rw [if_pos hinc] at HST
        obtain ⟨wb, hwb⟩ : ∃ wb, wa.setCell ⟨wr.heap.size, 8, none⟩ (.int .i64 (q8 + 1)) = wb := ⟨_, rfl⟩
        have hne : ∀ {a b : Nat}, a ≠ b → (⟨wr.heap.size, a, none⟩ : Addr) ≠ ⟨wr.heap.size, b, none⟩ := fun hab e => hab (by cases e; rfl)
        have y0 : wb.cell? ⟨wr.heap.size, 0, none⟩ = some (.int .i64 q0) := by rw [← hwb]; exact set_at _ x0 (hne (by decide))
        have y1 : wb.cell? ⟨wr.heap.size, 1, none⟩ = some (.int .i64 q1) := by rw [← hwb]; exact set_at _ x1 (hne (by decide))
        have y2 : wb.cell? ⟨wr.heap.size, 2, none⟩ = some (.string q2) := by rw [← hwb]; exact set_at _ x2 (hne (by decide))
        have y3 : wb.cell? ⟨wr.heap.size, 3, none⟩ = some (.string q3) := by rw [← hwb]; exact set_at _ x3 (hne (by decide))
        have y4 : wb.cell? ⟨wr.heap.size, 4, none⟩ = some (.string q4) := by rw [← hwb]; exact set_at _ x4 (hne (by decide))
        have y5 : wb.cell? ⟨wr.heap.size, 5, none⟩ = some (.int .i64 q5) := by rw [← hwb]; exact set_at _ x5 (hne (by decide))
        have y6 : wb.cell? ⟨wr.heap.size, 6, none⟩ = some (.int .i64 q6) := by rw [← hwb]; exact set_at _ x6 (hne (by decide))
        have y7 : wb.cell? ⟨wr.heap.size, 7, none⟩ = some (.string q7) := by rw [← hwb]; exact set_at _ x7 (hne (by decide))
        have y8 : wb.cell? ⟨wr.heap.size, 8, none⟩ = some (.int .i64 (q8 + 1)) := by rw [← hwb]; exact set_same x8 _
        have HOb : Hid (wb.ownsRow w1.heap.size 39 9 u5 M.length (flat M)) := by
          rw [← hwb]
          exact own_set HOa.out wr.heap.size 8 _ (fun e => by have := HLT.out _ e; omega)
        have HBB : Hid (Below w1.heap.size w1 wb) := by rw [← hwb]; exact HBA.out.setCell (p := ⟨wr.heap.size, 8, none⟩) hzs _
        obtain ⟨wc, hwc⟩ : ∃ wc, wb.alloc (.cells (ndV ⟨q0, q1, q2, q3, q4, q5, q6, q7, q8 + 1⟩) 39) = wc := ⟨_, rfl⟩
        have bc : Below wb.heap.size wb wc := by rw [← hwc]; exact (Below.refl _ wb).alloc (Nat.le_refl _) _
        obtain ⟨va, wd, hrun, hod, hbd⟩ := run_app9 wc w1.heap.size u5 M ⟨q0, q1, q2, q3, q4, q5, q6, q7, q8 + 1⟩ (own_on HOb.out bc) wb.heap.size (by rw [← hwc, hgAlloc, if_pos rfl]) (by omega) (Nat.le_trans HBB.out.size bc.size)
        have HBD : Hid (Below w1.heap.size w1 wd) := (HBB.out.trans (bc.mono HBB.out.size)).trans hbd
        have HOD : Hid (wd.ownsRow w1.heap.size 39 9 va (M ++ [(⟨q0, q1, q2, q3, q4, q5, q6, q7, q8 + 1⟩ : Nd)]).length (flat (M ++ [(⟨q0, q1, q2, q3, q4, q5, q6, q7, q8 + 1⟩ : Nd)]))) := hod
        unfold ndV at hwc
        clear bc hod hbd ba hinc hne
        by_cases hkn : k = n
        · have u1 : ((k : Int) == (n : Int)) = true := by rw [hkn]; simp
          rw [if_pos hkn] at HST
          clear hkn
          obtain ⟨we, hwe⟩ : ∃ we, wd.alloc (.cells (ndV hookN) 39) = we := ⟨_, rfl⟩
          have be : Below wd.heap.size wd we := by rw [← hwe]; exact (Below.refl _ wd).alloc (Nat.le_refl _) _
          obtain ⟨vb, wf, hrun2, hof, hbf⟩ := run_app9 we w1.heap.size va (M ++ [(⟨q0, q1, q2, q3, q4, q5, q6, q7, q8 + 1⟩ : Nd)]) hookN (own_on HOD.out be) wd.heap.size (by rw [← hwe, hgAlloc, if_pos rfl]) (by rw [List.length_append]; simp; omega) (Nat.le_trans HBD.out.size be.size)
          have HBF : Hid (Below w1.heap.size w1 wf) := (HBD.out.trans (be.mono HBD.out.size)).trans hbf
          rw [← HST.out] at hof
          have HOF : Hid (wf.ownsRow w1.heap.size 39 9 vb (putP L n (k + 1)).length (flat (putP L n (k + 1)))) := hof
          unfold ndV hookN at hwe
          clear be hof hbf
          go_wp2_with (first
            | (at_builtin; first | refine wpList_run22 (by rfl) _ _ (by rfl) _ _ va (by rfl) (by rfl) (by rfl) hrun ?_ | refine wpList_run22 (by rfl) _ _ (by rfl) _ _ vb (by rfl) (by rfl) (by rfl) hrun2 ?_)
            | go_in)
          exact ⟨⟨k + 1, by simp, by omega, HOF, HBF⟩, by simp [intOf]; omega⟩
        · have u1 : ((k : Int) == (n : Int)) = false := by simp; omega
          rw [if_neg hkn, List.append_nil] at HST
          clear hkn
          rw [← HST.out] at HOD
          go_wp2_with (first
            | (at_builtin; refine wpList_run22 (by rfl) _ _ (by rfl) _ _ va (by rfl) (by rfl) (by rfl) hrun ?_)
            | go_in)
          exact ⟨⟨k + 1, by simp, by omega, HOD, HBD⟩, by simp [intOf]; omega⟩
      · rw [if_neg hinc] at HST
        obtain ⟨wc, hwc⟩ : ∃ wc, wa.alloc (.cells (ndV ⟨q0, q1, q2, q3, q4, q5, q6, q7, q8⟩) 39) = wc := ⟨_, rfl⟩
        have bc : Below wa.heap.size wa wc := by rw [← hwc]; exact (Below.refl _ wa).alloc (Nat.le_refl _) _
        obtain ⟨va, wd, hrun, hod, hbd⟩ := run_app9 wc w1.heap.size u5 M ⟨q0, q1, q2, q3, q4, q5, q6, q7, q8⟩ (own_on HOa.out bc) wa.heap.size (by rw [← hwc, hgAlloc, if_pos rfl]) (by omega) (Nat.le_trans HBA.out.size bc.size)
        have HBD : Hid (Below w1.heap.size w1 wd) := (HBA.out.trans (bc.mono HBA.out.size)).trans hbd
        have HOD : Hid (wd.ownsRow w1.heap.size 39 9 va (M ++ [(⟨q0, q1, q2, q3, q4, q5, q6, q7, q8⟩ : Nd)]).length (flat (M ++ [(⟨q0, q1, q2, q3, q4, q5, q6, q7, q8⟩ : Nd)]))) := hod
        unfold ndV at hwc
        clear bc hod hbd ba
        by_cases t1 : (k : Int) ≤ (n : Int)
        · have t2 : ¬ ((n : Int) < (k : Int) + q8) := fun e => hinc ⟨by omega, e⟩
          clear hinc
          by_cases hkn : k = n
          · have u1 : ((k : Int) == (n : Int)) = true := by rw [hkn]; simp
            rw [if_pos hkn] at HST
            clear hkn
            obtain ⟨we, hwe⟩ : ∃ we, wd.alloc (.cells (ndV hookN) 39) = we := ⟨_, rfl⟩
            have be : Below wd.heap.size wd we := by rw [← hwe]; exact (Below.refl _ wd).alloc (Nat.le_refl _) _
            obtain ⟨vb, wf, hrun2, hof, hbf⟩ := run_app9 we w1.heap.size va (M ++ [(⟨q0, q1, q2, q3, q4, q5, q6, q7, q8⟩ : Nd)]) hookN (own_on HOD.out be) wd.heap.size (by rw [← hwe, hgAlloc, if_pos rfl]) (by rw [List.length_append]; simp; omega) (Nat.le_trans HBD.out.size be.size)
            have HBF : Hid (Below w1.heap.size w1 wf) := (HBD.out.trans (be.mono HBD.out.size)).trans hbf
            rw [← HST.out] at hof
            have HOF : Hid (wf.ownsRow w1.heap.size 39 9 vb (putP L n (k + 1)).length (flat (putP L n (k + 1)))) := hof
            unfold ndV hookN at hwe
            clear be hof hbf
            go_wp2_with (first
              | (at_builtin; first | refine wpList_run22 (by rfl) _ _ (by rfl) _ _ va (by rfl) (by rfl) (by rfl) hrun ?_ | refine wpList_run22 (by rfl) _ _ (by rfl) _ _ vb (by rfl) (by rfl) (by rfl) hrun2 ?_)
              | go_in)
            exact ⟨⟨k + 1, by simp, by omega, HOF, HBF⟩, by simp [intOf]; omega⟩
          · have u1 : ((k : Int) == (n : Int)) = false := by simp; omega
            rw [if_neg hkn, List.append_nil] at HST
            clear hkn
            rw [← HST.out] at HOD
            go_wp2_with (first
              | (at_builtin; refine wpList_run22 (by rfl) _ _ (by rfl) _ _ va (by rfl) (by rfl) (by rfl) hrun ?_)
              | go_in)
            exact ⟨⟨k + 1, by simp, by omega, HOD, HBD⟩, by simp [intOf]; omega⟩
        · clear hinc
          by_cases hkn : k = n
          · have u1 : ((k : Int) == (n : Int)) = true := by rw [hkn]; simp
            rw [if_pos hkn] at HST
            clear hkn
            obtain ⟨we, hwe⟩ : ∃ we, wd.alloc (.cells (ndV hookN) 39) = we := ⟨_, rfl⟩
            have be : Below wd.heap.size wd we := by rw [← hwe]; exact (Below.refl _ wd).alloc (Nat.le_refl _) _
            obtain ⟨vb, wf, hrun2, hof, hbf⟩ := run_app9 we w1.heap.size va (M ++ [(⟨q0, q1, q2, q3, q4, q5, q6, q7, q8⟩ : Nd)]) hookN (own_on HOD.out be) wd.heap.size (by rw [← hwe, hgAlloc, if_pos rfl]) (by rw [List.length_append]; simp; omega) (Nat.le_trans HBD.out.size be.size)
            have HBF : Hid (Below w1.heap.size w1 wf) := (HBD.out.trans (be.mono HBD.out.size)).trans hbf
            rw [← HST.out] at hof
            have HOF : Hid (wf.ownsRow w1.heap.size 39 9 vb (putP L n (k + 1)).length (flat (putP L n (k + 1)))) := hof
            unfold ndV hookN at hwe
            clear be hof hbf
            go_wp2_with (first
              | (at_builtin; first | refine wpList_run22 (by rfl) _ _ (by rfl) _ _ va (by rfl) (by rfl) (by rfl) hrun ?_ | refine wpList_run22 (by rfl) _ _ (by rfl) _ _ vb (by rfl) (by rfl) (by rfl) hrun2 ?_)
              | go_in)
            exact ⟨⟨k + 1, by simp, by omega, HOF, HBF⟩, by simp [intOf]; omega⟩
          · have u1 : ((k : Int) == (n : Int)) = false := by simp; omega
            rw [if_neg hkn, List.append_nil] at HST
            clear hkn
            rw [← HST.out] at HOD
            go_wp2_with (first
              | (at_builtin; refine wpList_run22 (by rfl) _ _ (by rfl) _ _ va (by rfl) (by rfl) (by rfl) hrun ?_)
              | go_in)
            exact ⟨⟨k + 1, by simp, by omega, HOD, HBD⟩, by simp [intOf]; omega⟩
    · obtain rfl : k = m := by omega
      have hji : ¬ ((k : Int) < (k : Int)) := by omega
      have hzs := hB.out.size
      have c9 := (hB.out.cell (p := ⟨w.heap.size + 1, 0, none⟩) (by show w.heap.size + 1 < _; omega)).trans HC1.out.1
      have f9 := (hB.out.frozen (p := ⟨w.heap.size + 1, 0, none⟩) (by show w.heap.size + 1 < _; omega)).trans HC1.out.2
      have hq : (wr.setCell ⟨w.heap.size + 1, 0, none⟩ u5).cell? ⟨w.heap.size + 1, 0, none⟩ = some u5 := set_same c9 _
      have HFIN : Hid ((wr.setCell ⟨w.heap.size + 1, 0, none⟩ u5).ownsRow w.heap.size 39 9 u5 (putP L n k).length (flat (putP L n k))) := by
        exact own_base (own_set hO.out (w.heap.size + 1) 0 _ (fun e => by have := (hO.out.lt _ e).1; omega)) (by omega)
      have HBF : Hid (Below w.heap.size w (wr.setCell ⟨w.heap.size + 1, 0, none⟩ u5)) := (BB.out.trans (hB.out.mono BB.out.size)).setCell (p := ⟨w.heap.size + 1, 0, none⟩) (by show w.heap.size ≤ w.heap.size + 1; omega) _
      obtain ⟨ov, oc, hu5, -⟩ := own_formN hO.out
      subst hu5
      clear hO hB
      go_wp2
      exact bodyPost_ret (v := .agg #[.slice ov (putP L n k).length oc]) (by simp [results, Tryd.results8, go_sem, hq]) rfl ⟨⟨_, rfl, HFIN⟩, HBF.out⟩
theorem small0_fine : Fine (smallL 0) := ⟨by decide, fun i hi => by
  have : i = 0 ∨ i = 1 ∨ i = 2 ∨ i = 3 := by have : (smallL 0).length = 4 := rfl; omega
  rcases this with rfl | rfl | rfl | rfl <;> exact ⟨by decide, by decide, by decide, by decide⟩⟩
theorem smallP_fine : Fine (putP (smallL 0) 2 4) := ⟨by decide, fun i hi => by
  have : i = 0 ∨ i = 1 ∨ i = 2 ∨ i = 3 ∨ i = 4 := by have : (putP (smallL 0) 2 4).length = 5 := rfl; omega
  rcases this with rfl | rfl | rfl | rfl | rfl <;> exact ⟨by decide, by decide, by decide, by decide⟩⟩
theorem small_sz : ∀ k, k < 4 → 0 ≤ (nd (smallL 0) k).size ∧ (nd (smallL 0) k).size ≤ 1353245080300 := fun k hk => by
  have : k = 0 ∨ k = 1 ∨ k = 2 ∨ k = 3 := by omega
  rcases this with rfl | rfl | rfl | rfl <;> exact ⟨by decide, by decide⟩

end Go.Proofs.YtlocaalipjjnpaaDoor

namespace Go.Proofs.YtlocaalipjjnpaaDoor

theorem nd_app_l (a b : List Nd) (i : Nat) (h : i < a.length) : nd (a ++ b) i = nd a i := by
  show (a ++ b).getD i default = a.getD i default
  rw [List.getD_eq_getElem?_getD, List.getElem?_append_left h, List.getD_eq_getElem?_getD]
theorem nd_app_r (a b : List Nd) (i : Nat) (h : a.length ≤ i) : nd (a ++ b) i = nd b (i - a.length) := by
  show (a ++ b).getD i default = b.getD (i - a.length) default
  rw [List.getD_eq_getElem?_getD, List.getElem?_append_right h, List.getD_eq_getElem?_getD]
theorem putP_get (L : List Nd) (n : Nat) : ∀ (k i : Nat), i < k → nd (putP L n k) (io n i) = incN n i (nd L i)
  | 0, i, h => by omega
  | k + 1, i, h => by
    have hl := putP_len L n k
    unfold putP
    by_cases hik : i < k
    · have h1 : io n i < (putP L n k).length := by
        rw [hl]
        unfold io
        split <;> split <;> omega
      rw [nd_app_l _ _ _ (by rw [List.length_append]; omega), nd_app_l _ _ _ h1]
      exact putP_get L n k i hik
    · obtain rfl : i = k := by omega
      have h1 : io n i = (putP L n i).length := by
        rw [hl]
        unfold io
        split <;> split <;> omega
      rw [nd_app_l _ _ _ (by rw [List.length_append, h1]; simp), nd_app_r _ _ _ (by omega), h1, Nat.sub_self]
      rfl
theorem putP_hook (L : List Nd) (n : Nat) : ∀ k, n < k → nd (putP L n k) (n + 1) = hookN
  | 0, h => by omega
  | k + 1, h => by
    have hl := putP_len L n k
    unfold putP
    by_cases hnk : n < k
    · rw [if_pos hnk] at hl
      rw [nd_app_l _ _ _ (by rw [List.length_append]; omega), nd_app_l _ _ _ (by omega)]
      exact putP_hook L n k hnk
    · obtain rfl : n = k := by omega
      rw [if_neg hnk] at hl
      rw [if_pos rfl, nd_app_r _ _ _ (by rw [List.length_append, hl]; simp), List.length_append, hl]
      simp
theorem ins_put {L : List Nd} {n : Nat} (hn : n < L.length) (hb : (nd L n).kind = 4) : Ins L (putP L n L.length) n := by
  refine ⟨hn, hb, by rw [putP_len, if_pos hn], fun i hi => ?_, putP_hook L n _ hn⟩
  rw [putP_get L n _ i hi]
  unfold incN
  split
  · rfl
  · simp

/-- The same but for the numbers of returns. -/
structure Sam (L M : List Nd) : Prop where
  len : M.length = L.length
  at' : ∀ i, nd M i = { nd L i with int := (nd M i).int }
  rng : ∀ i, nd M i = nd L i ∨ ((nd L i).kind = 12 ∧ 1 ≤ (nd M i).int ∧ (nd M i).int ≤ 1000)
theorem Sam.kind {L M : List Nd} (h : Sam L M) (i : Nat) : (nd M i).kind = (nd L i).kind := by have := congrArg Nd.kind (h.at' i); exact this
theorem Sam.size {L M : List Nd} (h : Sam L M) (i : Nat) : sz M i = sz L i := by have := congrArg Nd.size (h.at' i); exact this
theorem Sam.typ {L M : List Nd} (h : Sam L M) (i : Nat) : (nd M i).typ = (nd L i).typ := by have := congrArg Nd.typ (h.at' i); exact this
theorem Sam.pos {L M : List Nd} (h : Sam L M) (i : Nat) : (nd M i).pos = (nd L i).pos := by have := congrArg Nd.pos (h.at' i); exact this
theorem Sam.endO {L M : List Nd} (h : Sam L M) (i : Nat) : endOf M i = endOf L i := by unfold endOf; rw [h.size]
theorem Sam.plac {L M : List Nd} (h : Sam L M) : ∀ (f k : Nat), L.length - k ≤ f → place M k = place L k
  | 0, k, hf => by rw [plc_out L k (by omega), plc_out M k (by rw [h.len]; omega)]
  | f + 1, k, hf => by
    by_cases hk : k < L.length
    · rw [plc_go L k hk, plc_go M k (by rw [h.len]; exact hk), h.kind, Sam.plac h f (k + 1) (by omega)]
    · rw [plc_out L k (by omega), plc_out M k (by rw [h.len]; omega)]
theorem Sam.mayI {L M : List Nd} (h : Sam L M) (n k c : Nat) : may M n k c = may L n k c := by
  unfold may
  simp only [h.kind, h.size, h.plac _ k (Nat.le_refl _)]
theorem Sam.kids {L M : List Nd} (h : Sam L M) (n e : Nat) : ∀ (f k c : Nat), kidw M n e f k c = kidw L n e f k c
  | 0, k, c => rfl
  | f + 1, k, c => by
    unfold kidw
    rw [h.size, h.mayI, Sam.kids h n e f]
theorem Sam.fits {nm ty : ByteArray → Bool} {L M : List Nd} (h : Sam L M) {m : Nat} (hf : fit nm ty L m = true) : fit nm ty M m = true := by
  have hkd : kidsS M (shp (nd M m).kind).1 m = kidsS L (shp (nd L m).kind).1 m := by
    unfold kidsS
    rw [h.endO, h.kids, h.len, h.kind]
  unfold fit at hf ⊢
  rw [hkd, h.kind]
  simp only [Bool.and_eq_true] at hf ⊢
  refine ⟨⟨hf.1.1, ?_⟩, hf.2⟩
  rcases h.rng m with e | ⟨h12, h1, h2⟩
  · rw [e]
    exact hf.1.2
  · have h3 := hf.1.2
    rw [h12] at h3 ⊢
    have e1 : (shp 12).1.leastInt = 0 := rfl
    have e2 : (shp 12).1.mostInt = 40000 := rfl
    unfold fieldsS at h3 ⊢
    simp only [Bool.and_eq_true, decide_eq_true_eq] at h3 ⊢
    rw [e1, e2] at h3 ⊢
    have q1 : (nd M m).label = (nd L m).label := by have := congrArg Nd.label (h.at' m); exact this
    have q2 : (nd M m).name = (nd L m).name := by have := congrArg Nd.name (h.at' m); exact this
    have q3 : (nd M m).op = (nd L m).op := by have := congrArg Nd.op (h.at' m); exact this
    have q4 : (nd M m).text = (nd L m).text := by have := congrArg Nd.text (h.at' m); exact this
    rw [h.pos, q1, q2, h.typ, q3, q4]
    exact ⟨⟨⟨⟨⟨h3.1.1.1.1.1, by omega⟩, by omega⟩, h3.1.1.2⟩, h3.1.2⟩, h3.2⟩
theorem Sam.tree {nm ty : ByteArray → Bool} {L M : List Nd} (h : Sam L M) (ht : treeS nm ty L = true) : treeS nm ty M = true := by
  obtain ⟨h0, h1⟩ := tree_parts ht
  unfold treeS
  simp only [Bool.and_eq_true, List.all_eq_true, List.mem_range]
  refine ⟨?_, fun x hx => h.fits (h1 x (by rw [← h.len]; exact hx))⟩
  unfold headS at h0 ⊢
  rw [h.len, h.size, h.kind]
  exact h0
theorem Sam.stmI {L M : List Nd} (h : Sam L M) (e : Nat) : ∀ (f k : Nat), stm M e f k = stm L e f k
  | 0, k => rfl
  | f + 1, k => by
    unfold stm
    rw [h.kind, h.size, Sam.stmI h e f]
theorem Sam.way {L M : List Nd} (h : Sam L M) (T : WT) (i : Nat) : wayAt M T i = wayAt L T i := by
  unfold wayAt stmS
  simp only [h.kind, h.endO, h.stmI]
theorem Sam.tbls {L M : List Nd} (h : Sam L M) : ∀ d, tbl M d = tbl L d
  | 0 => rfl
  | d + 1 => by
    funext i
    show (if i = M.length - (d + 1) then wayAt M (tbl M d) (M.length - (d + 1)) else tbl M d i) = (if i = L.length - (d + 1) then wayAt L (tbl L d) (L.length - (d + 1)) else tbl L d i)
    rw [h.len, h.way, Sam.tbls h d]
theorem Sam.bodyF {L M : List Nd} (h : Sam L M) : ∀ (f k : Nat), bodyF M f k = bodyF L f k
  | 0, k => rfl
  | f + 1, k => by
    show (if (nd M k).kind = 3 then _ else _) = (if (nd L k).kind = 3 then _ else _)
    rw [h.kind, Sam.bodyF h f]
theorem Sam.givesI {L M : List Nd} (h : Sam L M) (T : WT) (k : Nat) (res : ByteArray) : gives M T k res = gives L T k res := by
  unfold gives bodyOf
  rw [h.kind, h.size, h.len, h.bodyF]
theorem Sam.res {L M : List Nd} (h : Sam L M) (k : Nat) (res : ByteArray) : resAt (nd M k) res = resAt (nd L k) res := by
  unfold resAt
  rw [h.kind, h.typ]
theorem Sam.chkI {L M : List Nd} (h : Sam L M) (T : WT) : ∀ (f k : Nat) (res : ByteArray), chk M T true f k res = chk L T true f k res
  | 0, k, res => rfl
  | f + 1, k, res => by
    unfold chk
    rw [h.len, h.res, h.givesI, h.pos, Sam.chkI h T f]
    rfl
theorem Sam.check {nm ty : ByteArray → Bool} {L M : List Nd} (h : Sam L M) (ht : progS nm ty L = true) : progS nm ty M = true ∧ checkS nm ty M true = checkS nm ty L true := by
  have ht' := ht
  unfold progS at ht'
  simp only [Bool.and_eq_true, beq_iff_eq] at ht'
  have hp : progS nm ty M = true := by
    unfold progS
    simp only [Bool.and_eq_true, beq_iff_eq]
    exact ⟨h.tree ht'.1, (h.kind 0).trans ht'.2⟩
  refine ⟨hp, ?_⟩
  unfold checkS
  rw [if_pos hp, if_pos ht]
  unfold chkS
  rw [h.chkI, h.len, h.tbls]

/-- What has been made of L: a program that is judged as L is, with a hook if something was put in. -/
structure Hk (L M : List Nd) (ch : Bool) (i : Nat) : Prop where
  prog : progS nameS typeS M = true
  same : checkS nameS typeS M true = checkS nameS typeS L true
  len : M.length ≤ L.length + i
  fine : Fine M
  hook : ch = true → ∃ j, j < M.length ∧ hooked (nd M j) = true
theorem nd_set (M : List Nd) (m : Nat) (hm : m < M.length) (y : Nd) (i : Nat) : nd (M.set m y) i = if i = m then y else nd M i := by
  show (M.set m y).getD i default = _
  rw [List.getD_eq_getElem?_getD, List.getElem?_set]
  by_cases h : i = m
  · subst h
    rw [if_pos rfl, if_pos rfl, if_pos hm]
    rfl
  · rw [if_neg h, if_neg (fun e => h e.symm)]
    show _ = M.getD i default
    rw [List.getD_eq_getElem?_getD]
theorem sam_set {M : List Nd} {m : Nat} (hm : m < M.length) (hk : (nd M m).kind = 12) {v : Int} (h1 : 1 ≤ v) (h2 : v ≤ 1000) : Sam M (M.set m { nd M m with int := v }) := by
  refine ⟨by simp, fun i => ?_, fun i => ?_⟩
  · rw [nd_set M m hm]
    split
    · rename_i e
      subst e
      rfl
    · rfl
  · rw [nd_set M m hm]
    split
    · rename_i e
      subst e
      exact .inr ⟨hk, h1, h2⟩
    · exact .inl rfl
theorem Hk.set {L M : List Nd} {ch : Bool} {i m : Nat} (h : Hk L M ch i) (hm : m < M.length) (hk : (nd M m).kind = 12) {v : Int} (h1 : 1 ≤ v) (h2 : v ≤ 1000) : Hk L (M.set m { nd M m with int := v }) true i := by
  have hs := sam_set hm hk h1 h2
  obtain ⟨c1, c2⟩ := hs.check h.prog
  refine ⟨c1, c2.trans h.same, by rw [hs.len]; exact h.len, ⟨by rw [hs.len]; exact h.fine.len, fun j hj => ?_⟩, fun _ => ⟨m, by rw [hs.len]; exact hm, ?_⟩⟩
  · rw [hs.len] at hj
    rw [hs.at' j]
    exact h.fine.txt j hj
  · rw [nd_set M m hm, if_pos rfl]
    unfold hooked
    simp only [hk]
    simp
    omega
theorem Hk.put {L M : List Nd} {ch : Bool} {i n : Nat} (h : Hk L M ch i) (hn : n < M.length) (hk : (nd M n).kind = 4) (hl : M.length + 1 ≤ 1353245080300) : Hk L (putP M n M.length) true (i + 1) := by
  have hs := ins_put hn hk
  obtain ⟨c1, c2⟩ := hs.check (by omega) h.prog
  refine ⟨c1, c2.trans h.same, by rw [hs.len]; have := h.len; omega, ⟨by rw [hs.len]; exact hl, fun j hj => ?_⟩, fun _ => ⟨n + 1, by rw [hs.len]; omega, by rw [hs.hook]; rfl⟩⟩
  by_cases hj1 : j = n + 1
  · subst hj1
    rw [hs.hook]
    exact ⟨Nat.zero_le _, Nat.zero_le _, Nat.zero_le _, Nat.zero_le _⟩
  · rw [hs.len] at hj
    obtain ⟨x, hx, rfl⟩ := io_cover hn hj hj1
    rw [hs.old x hx]
    exact h.fine.txt x hx
theorem Hk.over {L M : List Nd} {i : Nat} (h : Hk L M true i) : (checkS nameS typeS M false).1 = 81 ∨ ((checkS nameS typeS M false).1 = 80 ∧ (checkS nameS typeS L true).1 = 80) := by
  obtain ⟨j, hj, hh⟩ := h.hook rfl
  rw [← h.same]
  unfold checkS
  rw [if_pos h.prog, if_pos h.prog]
  exact chk_false M hj hh _ 0 _ (Nat.le_refl _) (Nat.zero_le _)
theorem hk_start {L : List Nd} (hp : progS nameS typeS L = true) (hf : Fine L) : Hk L L false 0 := ⟨hp, rfl, Nat.le_refl _, hf, fun e => by cases e⟩
end Go.Proofs.YtlocaalipjjnpaaDoor

namespace Go.Proofs.YtlocaalipjjnpaaDoor
open Go.RowKit

theorem flat_setInt (M : List Nd) (m : Nat) (hm : m < M.length) (v : Int) : (flat M).set (m * 9 + 6) (.int .i64 v) = flat (M.set m { nd M m with int := v }) := by
  apply List.ext_getElem?
  intro j
  rw [List.getElem?_set]
  by_cases hj : j < M.length * 9
  · have e : j = j / 9 * 9 + j % 9 := by omega
    have hq : j / 9 < M.length := by omega
    have hr : j % 9 < 9 := by omega
    have a1 := flat_at M (j / 9) (j % 9) hq hr
    have a2 := flat_at (M.set m { nd M m with int := v }) (j / 9) (j % 9) (by simpa using hq) hr
    rw [← e] at a1 a2
    rw [a1, a2, nd_set M m hm]
    by_cases hqm : j / 9 = m
    · rw [if_pos hqm, ← hqm]
      have : j % 9 = 0 ∨ j % 9 = 1 ∨ j % 9 = 2 ∨ j % 9 = 3 ∨ j % 9 = 4 ∨ j % 9 = 5 ∨ j % 9 = 6 ∨ j % 9 = 7 ∨ j % 9 = 8 := by omega
      rcases this with h | h | h | h | h | h | h | h | h
      case inr.inr.inr.inr.inr.inr.inl =>
        rw [if_pos (by omega), if_pos (by rw [flat_len]; omega), h]
        rfl
      all_goals
        rw [if_neg (by omega), h]
        rfl
    · rw [if_neg hqm, if_neg (by omega)]
  · rw [List.getElem?_eq_none (by rw [flat_len]; omega : (flat M).length ≤ j), List.getElem?_eq_none (by rw [flat_len, List.length_set]; omega : (flat (M.set m { nd M m with int := v })).length ≤ j)]
    split
    · split
      · rename_i h1 h2
        rw [flat_len] at h2
        omega
      · rfl
    · rfl
theorem own_basH {w : World} {b c : Nat} {e : TypeId} {size : Nat} {v : Value} {n : Nat} {xs : List Value} (h : w.ownsRow b e size v n xs) (hc : c ≤ b) : w.ownsRow c e size v n xs := by
  refine ⟨h.1, ?_⟩
  rcases h.2 with q | ⟨g, cap, cur, rfl, h1, h2⟩
  · exact .inl q
  · exact .inr ⟨g, cap, cur, rfl, Nat.le_trans hc h1, h2⟩
/-- The tree that is being changed. -/
structure HS (w1 W : World) (tb : Nat) (L M : List Nd) (ch : Bool) (i : Nat) : Prop where
  bel : Below w1.heap.size w1 W
  tlo : w1.heap.size ≤ tb
  row : ∃ g cp, W.cell? ⟨tb, 0, none⟩ = some (.slice (some ⟨g, 0, none⟩) M.length cp) ∧ W.ownsRow w1.heap.size 39 9 (.slice (some ⟨g, 0, none⟩) M.length cp) M.length (flat M) ∧ g ≠ tb
  tfr : W.frozen? ⟨tb, 0, none⟩ = false
  hk : Hk L M ch i
theorem HS.tlt {w1 W : World} {tb : Nat} {L M : List Nd} {ch : Bool} {i : Nat} (h : HS w1 W tb L M ch i) : tb < W.heap.size := by
  obtain ⟨g, cp, h1, _⟩ := h.row
  exact World.block_lt_of_cell? W _ h1
theorem HS.next {w1 W W' : World} {tb : Nat} {L M : List Nd} {ch : Bool} {i : Nat} (h : HS w1 W tb L M ch i) (b : Below W.heap.size W W') : HS w1 W' tb L M ch i := by
  have ht := h.tlt
  obtain ⟨g, cp, h1, h2, h3⟩ := h.row
  exact ⟨h.bel.trans (b.mono h.bel.size), h.tlo, ⟨g, cp, (b.cell (p := ⟨tb, 0, none⟩) ht).trans h1, own_on h2 b, h3⟩, (b.frozen (p := ⟨tb, 0, none⟩) ht).trans h.tfr, h.hk⟩
theorem HS.set {w1 W : World} {tb : Nat} {L M : List Nd} {ch : Bool} {i g cp m : Nat} (h : HS w1 W tb L M ch i) (h1 : W.cell? ⟨tb, 0, none⟩ = some (.slice (some ⟨g, 0, none⟩) M.length cp)) (h2 : W.ownsRow w1.heap.size 39 9 (.slice (some ⟨g, 0, none⟩) M.length cp) M.length (flat M)) (h3 : g ≠ tb) (hm : m < M.length) (hk : (nd M m).kind = 12) {v : Int} (v1 : 1 ≤ v) (v2 : v ≤ 1000) :
    HS w1 (W.setCell ⟨g, m * 9 + 6, none⟩ (.int .i64 v)) tb L (M.set m { nd M m with int := v }) true i := by
  have hl : (M.set m { nd M m with int := v }).length = M.length := by simp
  refine ⟨h.bel.setCell (p := ⟨g, m * 9 + 6, none⟩) (lay_of_own h2).1 _, h.tlo, ⟨g, cp, ?_, ?_, h3⟩, by rw [World.frozen?_setCell]; exact h.tfr, h.hk.set hm hk v1 v2⟩
  · rw [hl, World.cell?_setCell_other _ _ _ _ (fun e => h3 (by cases e <;> rfl))]
    exact h1
  · rw [hl, ← flat_setInt M m hm v]
    exact (h2.stored (m * 9 + 6) (.int .i64 v)).1
theorem HS.put {w1 W W5 : World} {tb : Nat} {L M : List Nd} {ch : Bool} {i m g cp : Nat} (h : HS w1 W tb L M ch i) (hm : m < M.length) (hk : (nd M m).kind = 4) (hl : M.length + 1 ≤ 1353245080300) (b : Below W.heap.size W W5) (ho : W5.ownsRow W.heap.size 39 9 (.slice (some ⟨g, 0, none⟩) (putP M m M.length).length cp) (putP M m M.length).length (flat (putP M m M.length))) :
    HS w1 (W5.setCell ⟨tb, 0, none⟩ (.slice (some ⟨g, 0, none⟩) (putP M m M.length).length cp)) tb L (putP M m M.length) true (i + 1) := by
  have ht := h.tlt
  have h5 := h.next b
  obtain ⟨g0, cp0, c1, _, _⟩ := h5.row
  have hg := (lay_of_own ho).1
  have hne : g ≠ tb := by omega
  refine ⟨h5.bel.setCell (p := ⟨tb, 0, none⟩) h.tlo _, h.tlo, ⟨g, cp, World.cell?_setCell_same' _ _ _ (by rw [c1]; rfl), ?_, hne⟩, by rw [World.frozen?_setCell]; exact h5.tfr, h.hk.put hm hk hl⟩
  exact own_set (own_basH ho (by have := h.bel.size; omega)) tb 0 _ (fun e => hne (by cases e; rfl))
/-- An append whose run is known, for the walk. -/
theorem wpList_apr {P : Program} {w : World} {ops : Array Oper} {rest : List Oper} {o : Oper} {a : Act} {Q : Exit → Act → World → Prop} {v' : Value} {w' : World} (hgd : o.guard = none) (s x : Operand) (t : TypeId)
    (ho : o.op = .call { callee := .builtin .append, args := #[s, x], argTypes := #[t, t] }) (hr : (Builtin.append_ #[t, t] o.type #[a.eval s, a.eval x]).run P w = .ok v' w')
    (h : wpList P ops Q rest (a.put o.dst v') w') : wpList P ops Q (o :: rest) a w := by
  refine wpList_plain hgd fun K hK => ?_
  unfold Oper.wp execOp
  simp only [ho, resolve, invoke, builtin, Sem.run_bind, Sem.run_pure, Result.andThen_ok, List.map_toArray, List.map_cons, List.map_nil, hr]
  exact hK _ _ h
end Go.Proofs.YtlocaalipjjnpaaDoor

namespace Go.Proofs.YtlocaalipjjnpaaDoor
open Go.RowKit

set_option maxRecDepth 100000 in
theorem smallP_yes : checkS nameS typeS (putP (smallL 0) 2 4) true = (0, 0) := by decide +kernel
set_option maxRecDepth 100000 in
theorem smallP_no : checkS nameS typeS (putP (smallL 0) 2 4) false = (81, 0) := by decide +kernel
/-- Numbers that lie there. -/
structure Ints (w : World) (q : Option Addr) (n : Nat) (I : List Int) : Prop where
  len : I.length = n
  at' : ∀ j (hj : j < I.length), ∃ g o, q = some ⟨g, o, none⟩ ∧ g < w.heap.size ∧ w.cell? ⟨g, o + j, none⟩ = some (.int .i64 I[j])
theorem Ints.below {w w' : World} {B : Nat} {q : Option Addr} {n : Nat} {I : List Int} (h : Ints w q n I) (hb : Below B w w') (hB : w.heap.size ≤ B) : Ints w' q n I :=
  ⟨h.len, fun j hj => by
    obtain ⟨g, o, h1, h2, h3⟩ := h.at' j hj
    exact ⟨g, o, h1, Nat.lt_of_lt_of_le h2 (by have := hb.size; omega), (hb.cell (p := ⟨g, o + j, none⟩) (by show g < B; omega)).trans h3⟩⟩

set_option maxRecDepth 100000 in
set_option maxHeartbeats 4000000 in
theorem flowHooks_any (w : World) (p q1 q2 : Option Addr) (n cap n1 k1 n2 k2 : Nat) (L : List Nd) (I J : List Int) (h : Arg w p n cap L) (hg : Rng L) (hT : Tbs w) (hI : Ints w q1 n1 I) (hJ : Ints w q2 n2 J) (hIl : n1 + n ≤ 1000000000) (hJl : n2 ≤ 1000000000) :
    Calls Tryd.prog 3 #[.agg #[.slice p n cap, .slice q1 n1 k1, .slice q2 n2 k2]] w fun e w' => e = .returned (.bool true) ∧ Below w.heap.size w w' := by
  have h2 : 2 ≤ w.heap.size := hT.kw.2
  obtain ⟨w1, hw1, z1, B1, c0, c1, c2⟩ : ∃ w1, w.alloc (.cells #[.slice p n cap, .slice q1 n1 k1, .slice q2 n2 k2] 27) = w1 ∧ w1.heap.size = w.heap.size + 1 ∧ Below w.heap.size w w1 ∧ w1.cell? ⟨w.heap.size, 0, none⟩ = some (.slice p n cap) ∧ w1.cell? ⟨w.heap.size, 1, none⟩ = some (.slice q1 n1 k1) ∧ w1.cell? ⟨w.heap.size, 2, none⟩ = some (.slice q2 n2 k2) :=
    ⟨_, rfl, by simp, (Below.refl _ w).alloc (Nat.le_refl _) _, cell_new _ _ _ _ _ rfl, cell_new _ _ _ _ _ rfl, cell_new _ _ _ _ _ rfl⟩
  have HA : Hid (Arg w p n cap L) := h
  have HT : Hid (Tbs w) := hT
  have zz : w.heap.size < w1.heap.size := by omega
  have hn : n ≤ 1353245080300 := by obtain ⟨hf, rfl, _⟩ := h.reads; exact hf.len
  have BB : Hid (Below w.heap.size w w1) := B1
  have TB : Hid (∀ W, Below w1.heap.size w1 W → Tbs W ∧ Below w.heap.size w W ∧ Ints W q1 n1 I ∧ Ints W q2 n2 J ∧ Arg W p n cap L) := fun W hW =>
    ⟨HT.out.below (BB.out.trans (hW.mono BB.out.size)) h2, BB.out.trans (hW.mono BB.out.size), hI.below (BB.out.trans (hW.mono BB.out.size)) (Nat.le_refl _), hJ.below (BB.out.trans (hW.mono BB.out.size)) (Nat.le_refl _), HA.out.next (BB.out.trans (hW.mono BB.out.size))⟩
  have TC : Hid (∀ W, Below w1.heap.size w1 W → W.cell? ⟨w.heap.size, 0, none⟩ = some (.slice p n cap) ∧ W.cell? ⟨w.heap.size, 1, none⟩ = some (.slice q1 n1 k1) ∧ W.cell? ⟨w.heap.size, 2, none⟩ = some (.slice q2 n2 k2)) := fun W hW =>
    ⟨(hW.cell (p := ⟨w.heap.size, 0, none⟩) zz).trans c0, (hW.cell (p := ⟨w.heap.size, 1, none⟩) zz).trans c1, (hW.cell (p := ⟨w.heap.size, 2, none⟩) zz).trans c2⟩
  have HG : Hid (Rng L) := hg
  have HLn : Hid (L.length = n ∧ Fine L) := ⟨h.reads.2.1, h.reads.1⟩
  clear h hg hT z1 B1 c0 c1 c2 hI hJ
  go_enter Tryd.func3, Tryd.ntmps3
  go_wp2_with fail
  refine (small_any w1).mono ?_
  rintro e w2 ⟨⟨gs, rfl, hsm⟩, hb2⟩
  obtain ⟨w3, hw3, b3, e3, z3⟩ : ∃ w3, w2.alloc (.cells #[.slice (some ⟨gs, 0, none⟩) 4 4] 24) = w3 ∧ Below w2.heap.size w2 w3 ∧ w3.cell? ⟨w2.heap.size, 0, none⟩ = some (.slice (some ⟨gs, 0, none⟩) 4 4) ∧ w2.heap.size < w3.heap.size :=
    ⟨_, rfl, (Below.refl _ w2).alloc (Nat.le_refl _) _, cell_new _ _ _ _ _ rfl, by simp⟩
  have hs3 : Reads w3 (some ⟨gs, 0, none⟩) 4 (smallL 0) := ⟨small0_fine, rfl, fun _ => ⟨gs, 0, rfl, hsm.out.2.1.next b3⟩⟩
  have d3 : Below w1.heap.size w1 w3 := hb2.trans (b3.mono hb2.size)
  have P1 := put_any w3 (some ⟨gs, 0, none⟩) 4 4 (smallL 0) 2 hs3 (by decide) small_sz
  go_wp2_with fail
  refine P1.mono ?_
  rintro e w4 ⟨⟨v4, rfl, ho4⟩, hb4⟩
  have d4 := d3.trans (hb4.mono d3.size)
  obtain ⟨ov4, cp4, rfl, hg4⟩ := own_formN ho4.out
  obtain ⟨G4, rfl⟩ := hg4 (by decide)
  have K1 := check_any w4 (some ⟨G4, 0, none⟩) 5 cp4 (putP (smallL 0) 2 4) true ⟨smallP_fine, rfl, fun _ => ⟨G4, 0, rfl, (lay_of_own ho4.out).2.1⟩⟩ (TB.out w4 d4).1.kw
  rw [smallP_yes] at K1
  have h5l : (putP (smallL 0) 2 4).length = 5 := rfl
  rw [h5l]
  clear P1 hg4 ho4
  go_wp2_with fail
  refine K1.mono ?_
  rintro e w5 ⟨rfl, hb5⟩
  have d5 := d4.trans (hb5.mono d4.size)
  have b35 := hb4.trans (hb5.mono hb4.size)
  have e5 := (b35.cell (p := ⟨w2.heap.size, 0, none⟩) z3).trans e3
  have P2 := put_any w5 (some ⟨gs, 0, none⟩) 4 4 (smallL 0) 2 (hs3.next b35) (by decide) small_sz
  have fd1 := fld31 0 0
  clear K1
  go_wp2_with fail
  refine P2.mono ?_
  rintro e w6 ⟨⟨v6, rfl, ho6⟩, hb6⟩
  have d6 := d5.trans (hb6.mono d5.size)
  obtain ⟨ov6, cp6, rfl, hg6⟩ := own_formN ho6.out
  obtain ⟨G6, rfl⟩ := hg6 (by decide)
  have K2 := check_any w6 (some ⟨G6, 0, none⟩) 5 cp6 (putP (smallL 0) 2 4) false ⟨smallP_fine, rfl, fun _ => ⟨G6, 0, rfl, (lay_of_own ho6.out).2.1⟩⟩ (TB.out w6 d6).1.kw
  rw [smallP_no] at K2
  rw [h5l]
  clear P2 hg6 ho6
  go_wp2_with fail
  refine K2.mono ?_
  rintro e w7 ⟨rfl, hb7⟩
  have d7 := d6.trans (hb7.mono d6.size)
  have fd2 := fld31 81 0
  obtain ⟨x70, -, -⟩ := TC.out w7 d7
  have D7 := deep_any w7 p n cap L (TB.out w7 d7).2.2.2.2.reads
  clear K2 hb2 hb4 hb5 hb6 hb7 d3 d4 d5 d6 e3 e5 b3 b35 hs3 hsm z3
  go_wp2_with fail
  refine D7.mono ?_
  rintro e w8 ⟨⟨b, rfl⟩, hb8⟩
  have d8 := d7.trans (hb8.mono d7.size)
  clear D7 fd1 fd2 x70 d7 hb8
  cases b
  case true =>
    have HB := (TB.out w8 d8).2.1
    go_wp2
    exact bodyPost_ret (v := .bool true) (by simp [results, Tryd.results3, go_sem]) rfl ⟨rfl, HB⟩
  obtain ⟨y0, y1, y2⟩ := TC.out w8 d8
  have V8 := rvalid_any w8 p n cap L (TB.out w8 d8).2.2.2.2.reads (TB.out w8 d8).1.rk
  rw [ref_tree L HLn.out.2.len HG.out] at V8
  have K8 := fun W (hW : Below w1.heap.size w1 W) => check_any W p n cap L true (TB.out W hW).2.2.2.2.reads (TB.out W hW).1.kw
  by_cases hP : progS nameS typeS L = true
  case neg =>
    have hP' : progS nameS typeS L = false := by simpa using hP
    have hck : checkS nameS typeS L true = (30, 0) := by unfold checkS; rw [hP']; rfl
    rw [hck] at K8
    have HK8 : Hid (∀ W, Below w1.heap.size w1 W → Calls Tryd.prog 7 #[.agg #[.slice p n cap], .bool true] W fun e w' => e = .returned (.agg #[.int .i64 30, .int .i64 0]) ∧ Below W.heap.size W w') := K8
    clear K8
    have fe := fun W : World => (show (binOp BinOp.eql 31 (.agg #[.int .i64 30, .int .i64 0]) (.agg #[.int .i64 30, .int .i64 0])).run Tryd.prog W = .ok (.bool true) W by kernel_rfl)
    by_cases hV : treeS nameS typeS L = true
    · rw [hV] at V8
      have V9 : Calls Tryd.prog 10 #[.agg #[.slice p n cap]] w8 fun e w' => e = .returned (.int .i64 0) ∧ Below w8.heap.size w8 w' := V8
      have hpos := (tr_of hV).pos
      have hk1 : (nd L 0).kind ≠ 1 := fun e => by
        unfold progS at hP'
        rw [hV, e] at hP'
        cases hP'
      obtain ⟨hf, hln, hr⟩ := (TB.out w8 d8).2.2.2.2.reads
      obtain ⟨g, o, rfl, hl⟩ := hr (fun e => by rw [e] at hpos; simp at hpos)
      have i1 : (0 : Int) < (n : Int) := by omega
      have hk1' : ((nd L 0).kind == 1) = false := by simpa using hk1
      clear V8 hf hr hP hP' hV hck
      go_wp2_with fail
      refine V9.mono ?_
      rintro e w9 ⟨rfl, hb9⟩
      have d9 := d8.trans (hb9.mono d8.size)
      obtain ⟨x90, -, -⟩ := TC.out w9 d9
      have l0 := (hl.next hb9).kind hpos
      rw [Nat.zero_mul, Nat.add_zero] at l0
      generalize (nd L 0).kind = q0 at l0 hk1'
      clear V9 hl
      go_wp2_with fail
      refine (HK8.out w9 d9).mono ?_
      rintro e w10 ⟨rfl, hb10⟩
      have HB := (TB.out w10 (d9.trans (hb10.mono d9.size))).2.1
      go_wp2
      exact bodyPost_ret (v := .bool true) (by simp [results, Tryd.results3, go_sem]) rfl ⟨rfl, HB⟩
    · have hV' : treeS nameS typeS L = false := by simpa using hV
      rw [hV'] at V8
      have V9 : Calls Tryd.prog 10 #[.agg #[.slice p n cap]] w8 fun e w' => e = .returned (.int .i64 30) ∧ Below w8.heap.size w8 w' := V8
      clear V8 hV hV' hP hP' hck
      go_wp2_with fail
      refine V9.mono ?_
      rintro e w9 ⟨rfl, hb9⟩
      have d9 := d8.trans (hb9.mono d8.size)
      obtain ⟨x90, -, -⟩ := TC.out w9 d9
      clear V9
      go_wp2_with fail
      refine (HK8.out w9 d9).mono ?_
      rintro e w10 ⟨rfl, hb10⟩
      have HB := (TB.out w10 (d9.trans (hb10.mono d9.size))).2.1
      go_wp2
      exact bodyPost_ret (v := .bool true) (by simp [results, Tryd.results3, go_sem]) rfl ⟨rfl, HB⟩
  have hPP := hP
  unfold progS at hPP
  simp only [Bool.and_eq_true, beq_iff_eq] at hPP
  obtain ⟨hV, hk1⟩ := hPP
  rw [hV] at V8
  have V9 : Calls Tryd.prog 10 #[.agg #[.slice p n cap]] w8 fun e w' => e = .returned (.int .i64 0) ∧ Below w8.heap.size w8 w' := V8
  have hpos := (tr_of hV).pos
  obtain ⟨hf, hln, hr⟩ := (TB.out w8 d8).2.2.2.2.reads
  obtain ⟨g, o, rfl, hl⟩ := hr (fun e => by rw [e] at hpos; simp at hpos)
  have i1 : (0 : Int) < (n : Int) := by omega
  clear V8 hf hr hV
  go_wp2_with fail
  refine V9.mono ?_
  rintro e w9 ⟨rfl, hb9⟩
  have d9 := d8.trans (hb9.mono d8.size)
  obtain ⟨x90, -, -⟩ := TC.out w9 d9
  have l0 := (hl.next hb9).kind hpos
  rw [Nat.zero_mul, Nat.add_zero, hk1] at l0
  clear V9 hl hk1
  have K9 := K8 w9 d9
  obtain ⟨C0, hC0⟩ : ∃ C0, checkS nameS typeS L true = C0 := ⟨_, rfl⟩
  have HC0 : Hid (checkS nameS typeS L true = C0) := hC0
  rw [hC0] at K9
  clear hC0 K8
  obtain ⟨ca, cb⟩ := C0
  simp only at K9
  go_wp2_with fail
  refine K9.mono ?_
  rintro e w10 ⟨rfl, hb10⟩
  have d10 := d9.trans (hb10.mono d9.size)
  clear K9 l0 x90 y0 y1 y2 hb9 hb10
  obtain ⟨wA, hwA, bA, sA, a0, a1⟩ : ∃ wA, w10.alloc (.cells #[.int .i64 ca, .int .i64 cb] 31) = wA ∧ Below w10.heap.size w10 wA ∧ wA.heap.size = w10.heap.size + 1 ∧ wA.cell? ⟨w10.heap.size, 0, none⟩ = some (.int .i64 ca) ∧ wA.cell? ⟨w10.heap.size, 1, none⟩ = some (.int .i64 cb) :=
    ⟨_, rfl, (Below.refl _ w10).alloc (Nat.le_refl _) _, by simp, cell_new _ _ _ _ _ rfl, cell_new _ _ _ _ _ rfl⟩
  obtain ⟨wB, hwB, bB, sB, hhB⟩ : ∃ wB, wA.alloc (.cells #[] 39) = wB ∧ Below wA.heap.size wA wB ∧ wB.heap.size = wA.heap.size + 1 ∧ wB.heap[wA.heap.size]? = some (.cells #[] 39) :=
    ⟨_, rfl, (Below.refl _ wA).alloc (Nat.le_refl _) _, by simp, World.alloc_heap_new wA _⟩
  have dA := d10.trans (bA.mono d10.size)
  have dB := dA.trans (bB.mono dA.size)
  obtain ⟨xb0, -, -⟩ := TC.out wB dB
  obtain ⟨vC, wC, hrunC, hoC, bC, -⟩ := run_dup8 wB wA.heap.size wA.heap.size (some ⟨g, o, none⟩) n cap L (TB.out wB dB).2.2.2.2.reads (fun e => by cases e) hhB (Nat.le_refl _)
  obtain ⟨ovC, cpC, rfl, hgC⟩ := own_formN hoC
  obtain ⟨gC, rfl⟩ := hgC (by omega)
  have HST : Hid (HS wA (wC.alloc (.cells #[.slice (some ⟨gC, 0, none⟩) n cpC] 24)) wC.heap.size L L false 0) := by
    have nC : Below wC.heap.size wC (wC.alloc (.cells #[.slice (some ⟨gC, 0, none⟩) n cpC] 24)) := (Below.refl _ wC).alloc (Nat.le_refl _) _
    have bAC : Below wA.heap.size wA wC := bB.trans bC
    have hh : (wC.alloc (.cells #[.slice (some ⟨gC, 0, none⟩) n cpC] 24)).heap[wC.heap.size]? = some (.cells #[.slice (some ⟨gC, 0, none⟩) n cpC] 24) := World.alloc_heap_new wC _
    obtain ⟨cc, cf⟩ := cell_block (k := 0) hh rfl
    have hlen := HLn.out.1
    subst hlen
    exact ⟨bAC.trans (nC.mono bAC.size), bAC.size, ⟨gC, cpC, cc, own_on hoC nC, by have := (hoC.lt gC rfl).2; omega⟩, cf, hk_start hP HLn.out.2⟩
  have hzA : w.heap.size < wA.heap.size := by have := d10.size; omega
  have HX : Hid (∀ W, Below wA.heap.size wA W → Below w1.heap.size w1 W ∧ W.cell? ⟨w10.heap.size, 0, none⟩ = some (.int .i64 ca) ∧ W.cell? ⟨w10.heap.size, 1, none⟩ = some (.int .i64 cb)) := fun W hW =>
    ⟨dA.trans (hW.mono dA.size), (hW.cell (p := ⟨w10.heap.size, 0, none⟩) (by show w10.heap.size < _; omega)).trans a0, (hW.cell (p := ⟨w10.heap.size, 1, none⟩) (by show w10.heap.size < _; omega)).trans a1⟩
  have HJ : Hid (n2 = J.length ∧ n1 = I.length) := ⟨(TB.out wA dA).2.2.2.1.len.symm, (TB.out wA dA).2.2.1.len.symm⟩
  obtain ⟨xa, xb, xc⟩ := TC.out (wC.alloc (.cells #[.slice (some ⟨gC, 0, none⟩) n cpC] 24)) (HX.out _ HST.out.bel).1
  clear bA bB bC dA dB d10 hoC hgC a0 a1 hhB d8 d9 sA sB hzA
  go_wp2_with (first
    | (at_builtin; refine wpList_run22 (by rfl) _ _ (by rfl) _ _ (.slice (some ⟨gC, 0, none⟩) n cpC) (by rfl) (by rfl) (by rfl) hrunC ?_)
    | fail)
  have hn1I : (n1 : Int) ≤ 1000000000 := by omega
  have hn2I : (n2 : Int) ≤ 1000000000 := by omega
  have hnn : Hid (n + n1 ≤ 1000000000) := by show _ ≤ _; omega
  generalize hwD : wC.alloc (.cells #[.slice (some ⟨gC, 0, none⟩) n cpC] 24) = wD at HST xa xb xc ⊢
  generalize hTb : wC.heap.size = tb at HST ⊢
  clear hwD hTb hrunC xa xb xc
  go_loopw [6, 59] (fun ch iv wr => ∃ (i : Nat) (b : Bool) (M : List Nd), i ≤ n2 ∧ ch = .bool b ∧ iv = .int .i64 (i : Int) ∧ Hid (HS wA wr tb L M b 0)) (fun _ iv _ => n2 - (intOf iv).toNat)
  case atStart => exact ⟨0, false, L, Nat.zero_le _, rfl, rfl, HST⟩
  case round =>
    obtain ⟨i, b, M, hi, rfl, rfl, HI⟩ := hrel
    clear HST
    obtain ⟨g', cp, t0, ho, hne⟩ := HI.out.row
    obtain ⟨dW, -, -⟩ := HX.out wr HI.out.bel
    obtain ⟨xa, xb, xc⟩ := TC.out wr dW
    by_cases hlt : i < n2
    · obtain ⟨gj, oj, hq, -, jv⟩ := (TB.out wr dW).2.2.2.1.at' i (by rw [← HJ.out.1]; exact hlt)
      subst hq
      obtain ⟨v, Hv⟩ : ∃ v, Hid (J[i]'(by rw [← HJ.out.1]; exact hlt) = v) := ⟨_, (rfl : J[i]'(by rw [← HJ.out.1]; exact hlt) = _)⟩
      rw [Hv.out] at jv
      have a0 : (0 : Int) ≤ (i : Int) := by omega
      have a1 : (i : Int) < (n2 : Int) := by omega
      obtain ⟨mL, HmL⟩ : ∃ mL, Hid (M.length = mL) := ⟨_, (rfl : M.length = _)⟩
      have t0' := t0
      rw [HmL.out] at t0
      by_cases hv0 : v < 0
      · have hv1 : ¬ (0 ≤ v) := by omega
        clear ho dW t0'
        go_wp2
        exact ⟨⟨i + 1, b, M, by omega, rfl, by go_num, HI⟩, by simp [intOf]; omega⟩
      · obtain ⟨m, rfl⟩ : ∃ m : Nat, v = (m : Int) := ⟨v.toNat, by omega⟩
        have hv1 : (0 : Int) ≤ (m : Int) := by omega
        by_cases hm : m < mL
        · have hm1 : (m : Int) < (mL : Int) := by omega
          have hmM : m < M.length := by rw [HmL.out]; exact hm
          have k0 := (lay_of_own ho).2.1.kind hmM
          rw [Nat.zero_add] at k0
          by_cases hk : (nd M m).kind = 12
          · rw [hk] at k0
            have c6 := (lay_of_own ho).2.1.c m hmM 6 _ rfl
            rw [Nat.zero_add] at c6
            have f6 := ho.frozenAt (m * 9 + 6)
            obtain ⟨r, Hr⟩ : ∃ r : Nat, Hid (i % 1000 = r) := ⟨_, (rfl : i % 1000 = _)⟩
            have hr : (i : Int).tmod 1000 = (r : Int) := by
              have h1 : (i : Int).tmod 1000 = ((i % 1000 : Nat) : Int) := by rw [Int.tmod_eq_emod_of_nonneg (by omega)]; omega
              rw [h1, Hr.out]
            have hr9 : r ≤ 999 := by have := Hr.out; omega
            have hrw : IntKind.i64.wrap (r : Int) = (r : Int) := by rw [IntKind.wrap_i64]; omega
            obtain ⟨V, HV⟩ : ∃ V : Int, Hid (1 + (r : Int) = V) := ⟨_, (rfl : 1 + (r : Int) = _)⟩
            have hVw : IntKind.i64.wrap (1 + (r : Int)) = V := by have := HV.out; rw [IntKind.wrap_i64]; omega
            have HN : Hid (HS wA (wr.setCell ⟨g', m * 9 + 6, none⟩ (.int .i64 V)) tb L (M.set m { nd M m with int := V }) true 0) := HI.out.set t0' ho hne hmM hk (by have := HV.out; omega) (by have := HV.out; omega)
            clear ho dW t0' hk
            go_wp2
            exact ⟨⟨i + 1, true, M.set m { nd M m with int := V }, by omega, rfl, by go_num, HN⟩, by simp [intOf]; omega⟩
          · generalize (nd M m).kind = kk at k0 hk
            have hk2 : (kk == 12) = false := by rw [beq_eq_false_iff_ne]; exact hk
            clear ho dW t0'
            go_wp2
            exact ⟨⟨i + 1, b, M, by omega, rfl, by go_num, HI⟩, by simp [intOf]; omega⟩
        · have hm1 : ¬ ((m : Int) < (mL : Int)) := by omega
          clear ho dW t0'
          go_wp2
          exact ⟨⟨i + 1, b, M, by omega, rfl, by go_num, HI⟩, by simp [intOf]; omega⟩
    · obtain rfl : i = n2 := by omega
      have i2 : ¬ ((i : Int) < (i : Int)) := by omega
      have HS2 : Hid (HS wA wr tb L M b 0) := HI.out
      clear ho t0 dW
      go_wp2_with fail
      clear xa xb xc
      go_loopw [6, 97] (fun ch iv wr => ∃ (j k : Nat) (b : Bool) (M : List Nd), j ≤ n1 ∧ k ≤ j ∧ ch = .bool b ∧ iv = .int .i64 (j : Int) ∧ Hid (HS wA wr tb L M b k)) (fun _ iv _ => n1 - (intOf iv).toNat)
      case atStart => exact ⟨0, 0, b, M, Nat.zero_le _, Nat.le_refl _, rfl, rfl, HS2⟩
      case round =>
        obtain ⟨j, k, b, M, hj, hkj, rfl, rfl, HI⟩ := hrel
        clear HS2
        obtain ⟨g', cp, t0, ho, hne⟩ := HI.out.row
        obtain ⟨dW, -, -⟩ := HX.out wr HI.out.bel
        obtain ⟨xa, xb, xc⟩ := TC.out wr dW
        have hMl : M.length ≤ 1000000000 := by have := HI.out.hk.len; have := hnn.out; have := HLn.out.1; omega
        by_cases hlt : j < n1
        · obtain ⟨gj, oj, hq, -, jv⟩ := (TB.out wr dW).2.2.1.at' j (by rw [← HJ.out.2]; exact hlt)
          subst hq
          obtain ⟨v, Hv⟩ : ∃ v, Hid (I[j]'(by rw [← HJ.out.2]; exact hlt) = v) := ⟨_, (rfl : I[j]'(by rw [← HJ.out.2]; exact hlt) = _)⟩
          rw [Hv.out] at jv
          have a0 : (0 : Int) ≤ (j : Int) := by omega
          have a1 : (j : Int) < (n1 : Int) := by omega
          obtain ⟨mL, HmL⟩ : ∃ mL, Hid (M.length = mL) := ⟨_, (rfl : M.length = _)⟩
          have t0' := t0
          rw [HmL.out] at t0
          by_cases hv0 : v < 0
          · have hv1 : ¬ (0 ≤ v) := by omega
            clear ho dW t0'
            go_wp2
            exact ⟨⟨j + 1, k, b, M, by omega, by omega, rfl, by go_num, HI⟩, by simp [intOf]; omega⟩
          · obtain ⟨m, rfl⟩ : ∃ m : Nat, v = (m : Int) := ⟨v.toNat, by omega⟩
            have hv1 : (0 : Int) ≤ (m : Int) := by omega
            by_cases hm : m < mL
            · have hm1 : (m : Int) < (mL : Int) := by omega
              have hmM : m < M.length := by rw [HmL.out]; exact hm
              have k0 := (lay_of_own ho).2.1.kind hmM
              rw [Nat.zero_add] at k0
              by_cases hk : (nd M m).kind = 4
              · rw [hk] at k0
                have hrd : Reads wr (some ⟨g', 0, none⟩) M.length M := ⟨HI.out.hk.fine, rfl, fun _ => ⟨g', 0, rfl, (lay_of_own ho).2.1⟩⟩
                have htr : treeS nameS typeS M = true := by
                  have := HI.out.hk.prog
                  unfold progS at this
                  simp only [Bool.and_eq_true] at this
                  exact this.1
                have PP := put_any wr (some ⟨g', 0, none⟩) M.length cp M m hrd (by omega) (fun x hx => by
                  have := (tr_of htr).good x hx
                  unfold Good sz at this
                  omega)
                have HP2 : Hid (∀ (w5 : World) (g5 cp5 : Nat), Below wr.heap.size wr w5 → w5.ownsRow wr.heap.size 39 9 (.slice (some ⟨g5, 0, none⟩) (putP M m M.length).length cp5) (putP M m M.length).length (flat (putP M m M.length)) → HS wA (w5.setCell ⟨tb, 0, none⟩ (.slice (some ⟨g5, 0, none⟩) (putP M m M.length).length cp5)) tb L (putP M m M.length) true (k + 1) ∧ w5.cell? ⟨tb, 0, none⟩ = some (.slice (some ⟨g', 0, none⟩) mL cp) ∧ w5.frozen? ⟨tb, 0, none⟩ = false) := fun w5 g5 cp5 hb5 ho5 => by
                  have h5 := HI.out.next hb5
                  exact ⟨HI.out.put hmM hk (by omega) hb5 ho5, (hb5.cell (p := ⟨tb, 0, none⟩) HI.out.tlt).trans t0, h5.tfr⟩
                have hpl : 0 < (putP M m M.length).length := by have := (ins_put hmM hk).len; omega
                rw [HmL.out] at PP
                rw [HmL.out] at HP2
                rw [HmL.out] at hpl
                clear ho dW t0' hrd htr hk
                go_wp2_with fail
                refine PP.mono ?_
                rintro e w5 ⟨⟨v5, rfl, ho5⟩, hb5⟩
                obtain ⟨ov5, cp5, rfl, hg5⟩ := own_formN ho5.out
                obtain ⟨G5, rfl⟩ := hg5 hpl
                obtain ⟨hN, t5, f5⟩ := HP2.out w5 G5 cp5 hb5 ho5.out
                have HN : Hid (HS wA (w5.setCell ⟨tb, 0, none⟩ (.slice (some ⟨G5, 0, none⟩) (putP M m mL).length cp5)) tb L (putP M m mL) true (k + 1)) := hN
                clear PP hN ho5 hb5 hg5
                go_wp2
                exact ⟨⟨j + 1, k + 1, true, putP M m mL, by omega, by omega, rfl, by go_num, HN⟩, by simp [intOf]; omega⟩
              · generalize (nd M m).kind = kk at k0 hk
                have hk2 : (kk == 4) = false := by rw [beq_eq_false_iff_ne]; exact hk
                clear ho dW t0'
                go_wp2
                exact ⟨⟨j + 1, k, b, M, by omega, by omega, rfl, by go_num, HI⟩, by simp [intOf]; omega⟩
            · have hm1 : ¬ ((m : Int) < (mL : Int)) := by omega
              clear ho dW t0'
              go_wp2
              exact ⟨⟨j + 1, k, b, M, by omega, by omega, rfl, by go_num, HI⟩, by simp [intOf]; omega⟩
        · obtain rfl : j = n1 := by omega
          have j2 : ¬ ((j : Int) < (j : Int)) := by omega
          have hrd : Reads wr (some ⟨g', 0, none⟩) M.length M := ⟨HI.out.hk.fine, rfl, fun _ => ⟨g', 0, rfl, (lay_of_own ho).2.1⟩⟩
          have DD := deep_any wr (some ⟨g', 0, none⟩) M.length cp M hrd
          have HRd : Hid (Reads wr (some ⟨g', 0, none⟩) M.length M) := hrd
          have hc0 : checkS nameS typeS M true = (ca, cb) := HI.out.hk.same.trans HC0.out
          have HC1 : Hid (checkS nameS typeS M true = (ca, cb)) := hc0
          have HOv : Hid (b = true → (checkS nameS typeS M false).1 = 81 ∨ ((checkS nameS typeS M false).1 = 80 ∧ ca = 80)) := fun hb => by
            subst hb
            rcases HI.out.hk.over with h | h
            · exact .inl h
            · rw [HC0.out] at h; exact .inr h
          have HW : Hid (∀ W, Below wr.heap.size wr W → Below wA.heap.size wA W ∧ W.cell? ⟨tb, 0, none⟩ = some (.slice (some ⟨g', 0, none⟩) M.length cp)) := fun W hb => ⟨HI.out.bel.trans (hb.mono HI.out.bel.size), (hb.cell (p := ⟨tb, 0, none⟩) HI.out.tlt).trans t0⟩
          clear ho dW hrd xa xb xc hc0
          go_wp2_with fail
          refine DD.mono ?_
          rintro e W1 ⟨⟨bd, rfl⟩, bb1⟩
          have HBf : Hid (∀ W, Below wr.heap.size wr W → Below w.heap.size w W) := fun W hb => (TB.out W (HX.out W (HW.out W hb).1).1).2.1
          clear DD
          cases bd
          case true =>
            have HB := HBf.out W1 bb1
            go_wp2
            exact bodyPost_ret (v := .bool true) (by simp [results, Tryd.results3, go_sem]) rfl ⟨rfl, HB⟩
          have t1 := (HW.out W1 bb1).2
          have KK := check_any W1 (some ⟨g', 0, none⟩) M.length cp M true (HRd.out.next bb1) (TB.out W1 (HX.out W1 (HW.out W1 bb1).1).1).1.kw
          rw [HC1.out] at KK
          simp only at KK
          have HB1 : Hid (Below wr.heap.size wr W1) := bb1
          clear bb1 t0
          go_wp2_with fail
          refine KK.mono ?_
          rintro e W2 ⟨rfl, bb2⟩
          have HB2 : Hid (Below wr.heap.size wr W2) := HB1.out.trans (bb2.mono HB1.out.size)
          clear KK bb2 t1
          go_upto_region 30 with fail
          obtain ⟨W3, hW3⟩ : ∃ W3, W3 = W2.alloc (.cells #[.int .i64 ca, .int .i64 cb] 31) := ⟨_, rfl⟩
          rw [← hW3]
          have bb3 : Below W2.heap.size W2 W3 := by rw [hW3]; exact (Below.refl _ W2).alloc (Nat.le_refl _) _
          have z0 : W3.cell? ⟨W2.heap.size, 0, none⟩ = some (.int .i64 ca) := by rw [hW3]; exact cell_new _ _ _ _ _ rfl
          have z1 : W3.cell? ⟨W2.heap.size, 1, none⟩ = some (.int .i64 cb) := by rw [hW3]; exact cell_new _ _ _ _ _ rfl
          have HB3 : Hid (Below wr.heap.size wr W3) := HB2.out.trans (bb3.mono HB2.out.size)
          have t3 := (HW.out W3 HB3.out).2
          obtain ⟨-, s0, s1⟩ := HX.out W3 (HW.out W3 HB3.out).1
          have nq := neq31 ca cb
          have KK := check_any W3 (some ⟨g', 0, none⟩) M.length cp M false (HRd.out.next HB3.out) (TB.out W3 (HX.out W3 (HW.out W3 HB3.out).1).1).1.kw
          obtain ⟨⟨cc, cd⟩, HCC⟩ : ∃ p, Hid (checkS nameS typeS M false = p) := ⟨_, (rfl : checkS nameS typeS M false = _)⟩
          rw [HCC.out] at KK HOv
          simp only at KK HOv
          clear hW3 bb3
          go_wp2_with fail
          refine KK.mono ?_
          rintro e W4 ⟨rfl, bb4⟩
          have HB4 : Hid (Below wr.heap.size wr W4) := HB3.out.trans (bb4.mono HB3.out.size)
          obtain ⟨-, s0, s1⟩ := HX.out W4 (HW.out W4 HB4.out).1
          have fd := fld31 cc cd
          have HB := HBf.out W4 HB4.out
          have HBE : Hid (Below w.heap.size w W4) := HB
          clear KK bb4 t3 z0 z1 nq HB
          cases b
          case false =>
            go_wp2
            exact bodyPost_ret (v := .bool true) (by simp [results, Tryd.results3, go_sem]) rfl ⟨rfl, HBE.out⟩
          case true =>
            rcases HOv.out rfl with h | ⟨h1, h2⟩
            · subst h
              go_wp2
              exact bodyPost_ret (v := .bool true) (by simp [results, Tryd.results3, go_sem]) rfl ⟨rfl, HBE.out⟩
            · subst h1
              subst h2
              go_wp2
              exact bodyPost_ret (v := .bool true) (by simp [results, Tryd.results3, go_sem]) rfl ⟨rfl, HBE.out⟩
end Go.Proofs.YtlocaalipjjnpaaDoor
