import Derived.Test.YtekgnogjfggnmaaDoorSpineW
import Derived.Test.YtekgnogjfggnmaaDoorQRound
namespace Go.Proofs.YtekgnogjfggnmaaDoor
open Go.RowKit Go.Shelf
attribute [local go_sem] Oper.semAt_some

/-- How far the way has to go. -/
def farS (k : Nat) (a : Act) (W : World) : Nat := match (a.tmps[6]? : Option Value) with
  | some (.pointer (some p)) => match W.cell? p with
    | some (.int _ x) => k - x.toNat
    | _ => 0
  | _ => 0

set_option maxRecDepth 100000 in
set_option maxHeartbeats 2000000 in
theorem spine_yes (w : World) (g o cap : Nat) (L : List Nd) (k : Nat) (hLb : L.length ≤ 1353245080300) (hkl : k < L.length) (ht : Tr L) (hl : Hid (Lay w g o L))
    (H : Hid (∀ w1 : World, Below w.heap.size w w1 → Calls Tryd.prog 33 #[.agg #[.slice (some ⟨g, o, none⟩) L.length cap], .int .i64 (k : Int)] w1 fun e w' => e = .returned (.bool true) ∧ Below w1.heap.size w1 w')) :
    Calls Tryd.prog 14 #[.agg #[.slice (some ⟨g, o, none⟩) L.length cap], .int .i64 (k : Int)] w fun e W' => (∃ v l, e = .returned v ∧ Hid (W'.ownsRow w.heap.size 3 1 v l.length (iv (nI l))) ∧ Hid (Way L l k)) ∧ Below w.heap.size w W' := by
  obtain ⟨i0', hi, hz0, hz1, hz2⟩ := info_parts info3
  have HT : Hid (Tr L) := ht
  obtain ⟨w1, hw1⟩ : ∃ w1, (w.alloc (.cells #[.slice (some ⟨g, o, none⟩) L.length cap] 24)).alloc (.cells #[.int .i64 (k : Int)] 3) = w1 := ⟨_, rfl⟩
  have z1 : w1.heap.size = w.heap.size + 2 := by rw [← hw1]; simp
  have b1 : Below w.heap.size w w1 := by rw [← hw1]; exact ((Below.refl _ w).alloc (Nat.le_refl _) _).alloc (by simp) _
  have c1 : w1.cell? ⟨w.heap.size, 0, none⟩ = some (.slice (some ⟨g, o, none⟩) L.length cap) := by rw [← hw1]; exact cell_old _ (cell_new _ _ _ _ _ rfl)
  have c2 : w1.cell? ⟨w.heap.size + 1, 0, none⟩ = some (.int .i64 (k : Int)) := by rw [← hw1]; exact new_cells _ _ _ _ _ _ (by simp) rfl
  have H1 : Hid (Calls Tryd.prog 33 #[.agg #[.slice (some ⟨g, o, none⟩) L.length cap], .int .i64 (k : Int)] w1 fun e w' => e = .returned (.bool true) ∧ Below w1.heap.size w1 w') := H.out w1 b1
  have HL1 : Hid (Lay w1 g o L) := hl.out.next b1
  have B1 : Hid (Below w.heap.size w w1) := b1
  clear ht H hl b1
  refine (callsIn_wide (n := 6)).1 ?_
  refine callsIn_of_wp_marks Tryd.func14 rfl trivial ?_ rfl
  simp only [Tryd.ntmps14, List.size_toArray, List.length_cons, List.length_nil, Nat.reduceAdd, Nat.reduceSub, Array.replicate_succ, Array.replicate_zero, List.push_toArray, List.append_toArray, List.nil_append, List.cons_append]
  gi_wp2_with (refine ⟨trivial, ?_⟩; gi_at_call 33; refine (callsIn_wide.2 H1.out).mono ?_; rintro e w2 ⟨rfl, hb2⟩)
  have HB2 : Hid (Below w1.heap.size w1 w2) := hb2
  have z2 := hb2.size
  clear H1 hb2 hw1
  refine wpIn_loop (fun (a : Act) (W : World) => ∃ (l ds : List Nat) (q A G c : Nat) (u7 u13 u14 u15 u16 u17 u18 u19 u20 u21 u22 u23 u24 u25 u26 u27 u28 u29 u30 u31 u32 u33 u34 u35 u36 : Value), a = { tmps := #[.agg #[.slice (some ⟨g, o, none⟩) L.length cap], .int .i64 (k : Int), .pointer (some ⟨w.heap.size, 0, none⟩), .pointer (some ⟨w.heap.size + 1, 0, none⟩), .slice none 0 0, .slice (some ⟨G, 0, none⟩) l.length c, .pointer (some ⟨A, 0, none⟩), u7, .agg #[.slice (some ⟨g, o, none⟩) L.length cap], .int .i64 (k : Int), .bool true, .bool false, .slice (some ⟨w2.heap.size, 0, none⟩) 1 1, u13, u14, u15, u16, u17, u18, u19, u20, u21, u22, u23, u24, u25, u26, u27, u28, u29, u30, u31, u32, u33, u34, u35, u36, undef], defers := ds.map fun D => { target := .collected D, args := #[] } } ∧ Hid (Mid w2 l A G c ds q W) ∧ Hid (Way L l q) ∧ q ≤ k ∧ (k : Int) < q + sz L q ∧ l.length ≤ q + 1) (farS k) ?start ?round
  case start =>
    have hsz := HT.out.root
    refine ⟨[0], [], 0, _, _, 1, _, _, _, _, _, _, _, _, _, _, _, _, _, _, _, _, _, _, _, _, _, _, _, _, _, rfl, ?_, Way.root, by omega, ?_, by simp⟩
    · refine ⟨((Below.refl _ w2).alloc (Nat.le_refl _) _).alloc (by simp) _, ⟨rfl, .inr ⟨_, _, #[.int .i64 0], rfl, Nat.le_refl _, (Below.heap_alloc _ _ _ (by simp)).trans (World.alloc_heap_new w2 _), Nat.le_refl _, by decide, rfl, rfl⟩⟩, by omega, by simp, ?_, ?_, fun D hm => by simp at hm, List.nodup_nil⟩
      · have := (new_cell (w2.alloc (.cells #[.int .i64 0] 3)) (.int .i64 0) 3).1
        rwa [World.size_alloc] at this
      · have := (new_cell (w2.alloc (.cells #[.int .i64 0] 3)) (.int .i64 0) 3).2
        rwa [World.size_alloc] at this
    · rw [hsz]
      omega
  case round =>
    rintro a W ⟨l, ds, q, A, G, c, u7, u13, u14, u15, u16, u17, u18, u19, u20, u21, u22, u23, u24, u25, u26, u27, u28, u29, u30, u31, u32, u33, u34, u35, u36, rfl, hm, hw, hqk, hkq, hlen⟩
    have HM : Hid (Mid w2 l A G c ds q W) := hm
    have HW : Hid (Way L l q) := hw
    have bw : Below w1.heap.size w1 W := HB2.out.trans (hm.out.bel.mono z2)
    have zW := hm.out.bel.size
    have d1 := (bw.cell (p := ⟨w.heap.size, 0, none⟩) (show w.heap.size < _ by omega)).trans c1
    have d2 := (bw.cell (p := ⟨w.heap.size + 1, 0, none⟩) (show w.heap.size + 1 < _ by omega)).trans c2
    have d3 := hm.out.cell
    have HBW : Hid (Below w1.heap.size w1 W) := bw
    clear hm hw bw
    by_cases hq : q = k
    · subst hq
      gi_wp2
      refine leaves_marks w2.heap.size (fun W => W.ownsRow w.heap.size 3 1 (.slice (some ⟨G, 0, none⟩) l.length c) l.length (iv (nI l)) ∧ Below w.heap.size w W) ?_ ?_ ds W HM.out.mks HM.out.nod ⟨own_base HM.out.row (by omega), B1.out.trans (HBW.out.mono (by omega))⟩
      · intro D W' hD hDW hj
        exact ⟨ownsRow_putObj hj.1 _ hDW rfl, hj.2.trans (belowK_b (w := w) (Nat.le_refl _) W' D _ _ (by omega) hDW rfl rfl)⟩
      · intro W' hj
        exact ⟨_, results_tmp rfl _ _ _, ⟨.slice (some ⟨G, 0, none⟩) l.length c, l, rfl, hj.1, HW⟩, hj.2⟩
    · have hqk' : q < k := by omega
      have hne : ¬ (q : Int) = (k : Int) := by omega
      gi_wp2_with (refine ⟨trivial, ?_⟩; gi_at_call 35; refine (callsIn_wide.2 (kidsOf_any _ _ _ _ _)).mono ?_; rintro e w' ⟨rfl, rfl⟩)
      obtain ⟨w3, hw3⟩ : ∃ w3, (W.alloc (.cells #[.slice (some ⟨g, o, none⟩) L.length cap] 22)).alloc (.cells #[.int .i64 (q : Int)] 3) = w3 := ⟨_, rfl⟩
      have z3 : w3.heap.size = W.heap.size + 2 := by rw [← hw3]; simp
      have b3 : Below W.heap.size W w3 := by rw [← hw3]; exact ((Below.refl _ W).alloc (Nat.le_refl _) _).alloc (by simp) _
      have hLW : Lay W g o L := HL1.out.next HBW.out
      have kk : KKeep W.heap.size g o cap q L w3 := ⟨hLW.next b3, by rw [← hw3]; exact cell_old _ (cell_new _ _ _ _ _ rfl), by rw [← hw3]; exact new_cells _ _ _ _ _ _ (by simp) rfl⟩
      have hql : q < L.length := by omega
      obtain ⟨g1, g2⟩ := HT.out.good q hql
      have he : (endOf L q : Int) = q + sz L q := by unfold endOf; omega
      have HKK : Hid (KKeep W.heap.size g o cap q L w3) := kk
      have HB3 : Hid (Below W.heap.size W w3) := b3
      have hglt : g < W.heap.size := hLW.lt
      have HG : Hid (Good L q) := ⟨g1, g2⟩
      rw [hw3]
      clear hw3 b3 hLW kk
      refine wpIn_range_guard rfl (by omega) (gf := 53) (lb := #[.pointer (some ⟨W.heap.size + 1, 0, none⟩), .pointer (some ⟨W.heap.size, 0, none⟩)]) rfl trivial (enters_of Tryd.func53 (by kernel_rfl) rfl)
        (kids_seq 5 (by omega) W.heap.size g o cap q L w3 hLb hql HG.out HKK.out (by omega)) (Below.refl _ _) (fun _ => rfl)
        (fun pre V => (KCh L q pre ∧ posK L q pre ≤ k) ∧ Below w3.heap.size w3 V)
        (fun cd _ V => cd = .exit 2 ∧ ∃ κ : Nat, (Kid L q κ ∧ κ ≤ k ∧ (k : Int) < κ + sz L κ) ∧ Below w3.heap.size (w3.setCell ⟨A, 0, none⟩ (.int .i64 (κ : Int))) V)
        (fun s X Y row hs hg hr => ⟨hs.1, ownFrom_below (β := List Nat) (Nat.le_refl _) (Nat.le_refl _) s X Y row hs.2 hg hr⟩)
        (fun cd s X Y row hs hg hr => ⟨hs.1, hs.2.elim fun κ h => ⟨κ, h.1, ownFrom_below (β := List Nat) (by rw [size_set]; exact Nat.le_refl _) (Nat.le_refl _) s X Y row h.2 hg hr⟩⟩)
        ⟨⟨KCh.nil HT.out hql, by show q + 1 ≤ k; omega⟩, Below.refl _ _⟩ (fun pre V hI => HKK.out.below hI.2 (by omega) (by omega) hI.2.size) (fun pre x V hI => hI.1.1.last pre x rfl)
        (fun x => { tmps := #[.agg #[.slice (some ⟨g, o, none⟩) L.length cap], .int .i64 (k : Int), .pointer (some ⟨w.heap.size, 0, none⟩), .pointer (some ⟨w.heap.size + 1, 0, none⟩), .slice none 0 0, .slice (some ⟨G, 0, none⟩) l.length c, .pointer (some ⟨A, 0, none⟩), .int .i64 (x : Int), .agg #[.slice (some ⟨g, o, none⟩) L.length cap], .int .i64 (k : Int), .bool true, .bool false, .slice (some ⟨w2.heap.size, 0, none⟩) 1 1, .int .i64 (q : Int), .int .i64 (k : Int), .bool true, .pointer (some ⟨w.heap.size, 0, none⟩), .slice (some ⟨g, o, none⟩) L.length cap, .int .i64 (q : Int), .func (.func 53) #[] #[.pointer (some ⟨W.heap.size + 1, 0, none⟩), .pointer (some ⟨W.heap.size, 0, none⟩)], .int .i64 (x : Int), u21, u22, u23, u24, u25, u26, u27, u28, u29, u30, u31, u32, u33, u34, u35, u36, undef], defers := [] }) ?assign ?body ?done ?stop
      case assign =>
        intro l' x V K hK
        gi_wp2
        simpa [encK] using hK
      case body =>
        rintro l' pre x V ⟨⟨hch, hpk⟩, hB'⟩ ⟨hx, hxE⟩
        have hkid : Kid L q x := ⟨by rw [hx]; exact hch.ch, by omega⟩
        obtain ⟨e1, e2⟩ := HT.out.kid_good hql hkid
        have hxl : x < L.length := by omega
        have hb3 := HB3.out
        have p1 := (hB'.cell (p := ⟨w.heap.size, 0, none⟩) (show w.heap.size < _ by omega)).trans ((hb3.cell (p := ⟨w.heap.size, 0, none⟩) (show w.heap.size < _ by omega)).trans d1)
        have p2 := (hB'.cell (p := ⟨w.heap.size + 1, 0, none⟩) (show w.heap.size + 1 < _ by omega)).trans ((hb3.cell (p := ⟨w.heap.size + 1, 0, none⟩) (show w.heap.size + 1 < _ by omega)).trans d2)
        have hA := HM.out.alt
        have p3 := (hB'.cell (p := ⟨A, 0, none⟩) (show A < _ by omega)).trans ((hb3.cell (p := ⟨A, 0, none⟩) hA).trans d3)
        have p4 := (hB'.frozen (p := ⟨A, 0, none⟩) (show A < _ by omega)).trans ((hb3.frozen (p := ⟨A, 0, none⟩) hA).trans HM.out.fro)
        have p5 := (HKK.out.lay.next hB').size hxl
        have j0 : (0 : Int) ≤ (x : Int) := by omega
        have j1 : (x : Int) < (L.length : Int) := by omega
        have HCH : Hid (KCh L q pre ∧ x = posK L q pre ∧ x < endOf L q) := ⟨hch, hx, hxE⟩
        have HBB : Hid (Below w3.heap.size w3 V) := hB'
        have HKD : Hid (Kid L q x) := hkid
        have hxk : x ≤ k := by omega
        have HSZ : Hid (sz L x = (nd L x).size) := rfl
        have hLn : (x : Int) + (nd L x).size ≤ (L.length : Int) := by have : sz L x = (nd L x).size := rfl; omega
        have hn1 : 1 ≤ (nd L x).size := e1
        clear hch hx hxE hB' hkid e1 e2 hb3 hpk
        generalize (nd L x).size = s at *
        by_cases hks : (k : Int) < (x : Int) + s
        · gi_wp2
          refine region_round ?nd (by kernel_rfl) (by kernel_rfl) ?_
          case nd => intro o ho c; simp only [List.mem_cons, List.not_mem_nil, or_false] at ho; rcases ho with rfl | rfl | rfl | rfl | rfl | rfl | rfl | rfl | rfl | rfl <;> simp
          repeat (gi_big_quiet_step (fail))
          refine wpQuietIn_nil ?_
          rintro _ ⟨nq, rfl⟩
          have hY : Below V.heap.size V (V.drewN nq) := ⟨rfl, rfl, rfl, Nat.le_refl _, fun _ _ => rfl⟩
          gi_wp2
          refine ⟨(keeps_below hY).trans (KeepsOthers.setCell _ _ _), rfl, x, ⟨HKD.out, hxk, ?_⟩, below_set2 (HBB.out.trans (hY.mono HBB.out.size)) _ _⟩
          rw [HSZ.out]
          exact hks
        · gi_wp2
          refine region_round ?nd (by kernel_rfl) (by kernel_rfl) ?_
          case nd => intro o ho c; simp only [List.mem_cons, List.not_mem_nil, or_false] at ho; rcases ho with rfl | rfl | rfl | rfl | rfl | rfl | rfl | rfl | rfl | rfl <;> simp
          repeat (gi_big_quiet_step (fail))
          refine wpQuietIn_nil ?_
          rintro _ ⟨nq, rfl⟩
          have hY : Below V.heap.size V (V.drewN nq) := ⟨rfl, rfl, rfl, Nat.le_refl _, fun _ _ => rfl⟩
          gi_wp2
          obtain ⟨hch, hx, hxE⟩ := HCH.out
          refine ⟨keeps_below hY, ⟨?_, ?_⟩, HBB.out.trans (hY.mono HBB.out.size)⟩
          · rw [hx]
            exact hch.snoc HT.out hql (by omega)
          · rw [posK_snoc, HSZ.out]
            omega
      case done =>
        rintro D ys V hD hS ⟨⟨hch, hpk⟩, hB'⟩ hK
        exfalso
        omega
      case stop =>
        rintro D cd pre V hD ⟨rfl, κ, ⟨hkid, hκk, hkκ⟩, hB'⟩ hK
        have HM4 : Hid (Mid w2 l A G c (D :: ds) κ V) := HM.out.stop HB3.out hB' hD hK
        have r3 := HM4.out.cell
        have hqκ := hkid.ch.le
        have zV := HM4.out.bel.size
        have HKD : Hid (Kid L q κ) := hkid
        have HKK' : Hid ((k : Int) < κ + sz L κ) := hkκ
        clear hB' hD hK hkid hkκ HKK HG he g1 g2
        gi_wp2_with (gi_at_builtin; refine wpListIn_append_own _ rfl _ _ 41 rfl w2.heap.size 3 i0' (.int .i64 0) 1 8 Tryd.underlying41 hi hz0 hz1 hz2 rfl (by decide) _ _ _ rfl (HM4.out.row.alloc _) ⟨V.heap.size, 0, none⟩ 1 1 [.int .i64 (κ : Int)] rfl rfl (cell_one_new _ _ _) (by simp [Value.oneCell']) (by unfold maxLen; omega) (by omega) (by simp; omega) ?_; intro v' w4 hown' hgrow _; obtain ⟨G', c', rfl⟩ := ownsRow_succ hown'; obtain ⟨r4, m5⟩ := HM4.out.grown hgrow hown')
        have e : (l ++ [κ]).length = l.length + 1 := by simp
        have m5c := m5.cell
        refine ⟨⟨l ++ [κ], D :: ds, κ, w4.heap.size, G', c', _, _, _, _, _, _, _, _, _, _, _, _, _, _, _, _, _, _, _, _, _, _, _, _, _, by rw [e]; rfl, m5, Way.step HW.out HKD.out (by omega), hκk, HKK'.out, by omega⟩, ?_⟩
        simp [farS, d3, m5c]
        omega

end Go.Proofs.YtekgnogjfggnmaaDoor
