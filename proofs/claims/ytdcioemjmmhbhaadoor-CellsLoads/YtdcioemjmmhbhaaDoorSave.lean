import Derived.Test.YtdcioemjmmhbhaaDoorElem
namespace Go.Proofs.YtdcioemjmmhbhaaDoor
open Go.RowKit

/-- The bytes of an array, and of a heap. -/
def arB (a : Int × List V) : List UInt8 := byteOf a.1 :: (numB (a.2.length : Int) 8 ++ a.2.flatMap elB)
def saveS (A : Hp) : List UInt8 := 72 :: (numB (A.length : Int) 8 ++ A.flatMap arB)
theorem elB_len {v : V} (h : v.2.2.size ≤ 256) : (elB v).length ≤ 258 := by
  unfold elB
  split
  · simp
  split
  · rw [List.length_append, numB_len, ← Lib.size_eq]; omega
  · rw [numB_len]; omega
theorem els_bound : ∀ (l : List V), (∀ v ∈ l, v.2.2.size ≤ 256) → (l.flatMap elB).length ≤ 258 * l.length
  | [], _ => by simp
  | v :: l, h => by
    rw [List.flatMap_cons, List.length_append, List.length_cons]
    have h1 := elB_len (h v (List.mem_cons_self ..))
    have h2 := els_bound l (fun x hx => h x (List.mem_cons_of_mem _ hx))
    omega
theorem ars_bound : ∀ (A : Hp), (∀ a ∈ A, ∀ v ∈ a.2, v.2.2.size ≤ 256) → (A.flatMap arB).length ≤ 258 * usedS A
  | [], _ => by simp
  | a :: A, h => by
    rw [List.flatMap_cons, List.length_append, usedS]
    have h1 := els_bound a.2 (h a (List.mem_cons_self ..))
    have h2 := ars_bound A (fun x hx => h x (List.mem_cons_of_mem _ hx))
    have h3 : (arB a).length = 9 + (a.2.flatMap elB).length := by unfold arB; rw [List.length_cons, List.length_append, numB_len]; omega
    omega

set_option maxRecDepth 100000 in
set_option maxHeartbeats 4000000 in
theorem save_at {w : World} {p lim : Nat} {As : List Ar} {rq : Option Addr} {rn rg ro : Nat} {av : Value} {F : Nat → Prop} (h : HeapAt w p lim As rq rn rg ro av F) :
    Calls Tryd.prog 16 #[.pointer (some ⟨p, 0, none⟩)] w fun e w' => e = .returned (.string ⟨(saveS (absA As)).toArray⟩) ∧ Below w.heap.size w w' := by
  have hlen := h.len
  have htx : ∀ a ∈ As, ∀ v ∈ a.els, v.2.2.size ≤ 256 := fun a ha v hv => may_small ((h.ok a ha).2 v hv)
  have htot : ((absA As).flatMap arB).length ≤ 25800000 := by
    have h1 := ars_bound (absA As) (fun a ha v hv => by
      unfold absA at ha
      obtain ⟨b, hb, rfl⟩ := List.mem_map.1 ha
      exact htx b hb v hv)
    have h2 := h.le
    have h3 := h.top
    omega
  have HTOT : Hid (∀ i, i ≤ As.length → (((absA As).take i).flatMap arB).length ≤ 25800000) := fun i _ => by
    have e : (absA As).flatMap arB = ((absA As).take i).flatMap arB ++ ((absA As).drop i).flatMap arB := by rw [← List.flatMap_append, List.take_append_drop]
    rw [e, List.length_append] at htot
    omega
  obtain ⟨aq, ac', hav, -, har⟩ := own_slice h.arrs
  subst hav
  have c3 := h.c3
  have hcnt := fun W (hW : Below w.heap.size w W) => count_any (h.next hW)
  have HAR : Hid (∀ i (hi : i < As.length) W, Below w.heap.size w W → ∃ ag, aq = some ⟨ag, 0, none⟩ ∧ W.cell? ⟨ag, i * 2, none⟩ = some (.int .i64 As[i].kind) ∧ W.cell? ⟨ag, i * 2 + 1, none⟩ = some (.slice As[i].q As[i].els.length As[i].els.length)) := fun i hi W hW => by
    obtain ⟨ag, e, hr⟩ := har (by omega)
    have e0' := hr (i * 2 + 0) (.int .i64 As[i].kind) ((flat_at ac 2 (fun _ => rfl) As i 0 hi (by decide)).trans rfl)
    have e1' := hr (i * 2 + 1) (.slice As[i].q As[i].els.length As[i].els.length) ((flat_at ac 2 (fun _ => rfl) As i 1 hi (by decide)).trans rfl)
    rw [Nat.zero_add] at e0' e1'
    rw [Nat.add_zero] at e0'
    exact ⟨ag, e, (hW.cell (p := ⟨ag, _, none⟩) (block_lt_of_cell e0')).trans e0', (hW.cell (p := ⟨ag, _, none⟩) (block_lt_of_cell e1')).trans e1'⟩
  have HEL : Hid (∀ i (hi : i < As.length) j (hj : j < As[i].els.length) W, Below w.heap.size w W → As[i].q = some ⟨As[i].g, As[i].o, none⟩ ∧ W.rangeAt As[i].g (As[i].o + j * 3) (vc As[i].els[j]) ∧ As[i].els[j].2.2.size ≤ 256) := fun i hi j hj W hW => by
    have hmem := List.getElem_mem hi
    obtain ⟨e1, e2, e3, e4⟩ := h.els As[i] hmem (fun q => by rw [q] at hj; simp at hj)
    have e5 := vcs_get e3 j hj
    exact ⟨e1, range_same e5 (hW.block _ e2.lt), htx _ hmem _ (List.getElem_mem hj)⟩
  have HC3 : Hid (∀ W, Below w.heap.size w W → W.cell? ⟨p, 3, none⟩ = some (.slice aq As.length ac')) := fun W hW => (hW.cell (p := ⟨p, 3, none⟩) h.blk.lt).trans c3
  have HS : Hid (saveS (absA As) = 72 :: (numB (As.length : Int) 8 ++ (absA As).flatMap arB)) := by
    show saveS (absA As) = _
    unfold saveS
    rw [abs_len]
  generalize saveS (absA As) = R at HS ⊢
  have hn := World.alloc_heap_new w (.cells #[.int .u8 72] 5)
  have B0 : Below w.heap.size w (w.alloc (.cells #[.int .u8 72] 5)) := (Below.refl _ w).alloc (Nat.le_refl _) _
  have o0 : (w.alloc (.cells #[.int .u8 72] 5)).ownsRow w.heap.size 5 1 (.slice (some ⟨w.heap.size, 0, none⟩) 1 1) 1 (bv [72]) := ⟨rfl, .inr ⟨w.heap.size, 1, _, rfl, Nat.le_refl _, hn, Nat.le_refl _, by decide, rfl, rfl⟩⟩
  clear h htx htot har c3 hn
  go_enter Tryd.func16, Tryd.ntmps16
  go_wp2_with fail
  generalize w.alloc (.cells #[.int .u8 72] 5) = X at B0 o0 ⊢
  refine (hcnt X B0).mono ?_
  rintro e w1 ⟨rfl, hw1⟩
  subst hw1
  have hc := appNum_any (As.length : Int) 8 (by decide) w.heap.size _ 1 [72] w1 o0 B0.size (by decide)
  clear hcnt
  go_wp2_with fail
  refine hc.mono ?_
  rintro e w2 ⟨v2, rfl, hg2⟩
  have o2 := hg2.out.own
  have B2 : Below w.heap.size w w2 := B0.trans (hg2.out.kp.below (fun k hk => by cases hk; exact Nat.le_refl _) B0.size)
  have c3 := HC3.out w2 B2
  clear hc hg2 o0 B0
  go_wp2_with fail
  go_loopw [3, 17] (fun b v wr => ∃ (i n : Nat) (l : List UInt8), i ≤ As.length ∧ v = .int .i64 (i : Int) ∧ Hid (l = 72 :: (numB (As.length : Int) 8 ++ ((absA As).take i).flatMap arB)) ∧ Hid (wr.ownsRow w.heap.size 5 1 b n (bv l)) ∧ Hid (Below w.heap.size w wr)) (fun _ v _ => As.length - (intOf v).toNat)
  case atStart => exact ⟨0, 9, _, Nat.zero_le _, rfl, rfl, by rw [List.take_zero, List.flatMap_nil, List.append_nil]; exact o2, B2⟩
  case round =>
    obtain ⟨i, n, l, hi, rfl, hl, hO, hB⟩ := hrel
    clear o2 B2 c3
    have hnl : n = l.length := by have := hO.out.1; rw [bv_len] at this; omega
    have hnb : n ≤ 25800009 := by
      have := HTOT.out i hi
      rw [hnl, hl.out, List.length_cons, List.length_append, numB_len]
      omega
    clear hnl
    by_cases hlt : i < As.length
    case neg =>
      obtain rfl : i = As.length := by omega
      have e : (absA As).take As.length = absA As := by rw [← abs_len, List.take_length]
      rw [e, ← HS.out] at hl
      have hcv := conv_own hO.out
      rw [hl.out] at hcv
      obtain ⟨q, c, rfl, -, -⟩ := own_slice hO.out
      clear e
      go_wp2
      first | (change bodyPost Tryd.prog Tryd.f16 _ Exit.ret _ _) | (simp only [Exit.noGoto])
      go_ret
      exact ⟨rfl, hB.out⟩
    have hl2 : l ++ arB (As[i].kind, As[i].els) = 72 :: (numB (As.length : Int) 8 ++ ((absA As).take (i + 1)).flatMap arB) := by
      have e : (absA As).take (i + 1) = (absA As).take i ++ [(As[i].kind, As[i].els)] := by
        rw [List.take_succ_eq_append_getElem (by rw [abs_len]; exact hlt)]
        simp [absA]
      rw [hl.out, e, List.flatMap_append]
      simp
    have hn9 : 0 < n := by
      have := hO.out.1
      rw [bv_len, hl.out, List.length_cons] at this
      omega
    obtain ⟨ag, rfl, a0, a1⟩ := HAR.out i hlt wr hB.out
    have HELi := fun j hj W hW => HEL.out i hlt j hj W hW
    have HEI : Hid (∀ j (hj : j < As[i].els.length) W, Below w.heap.size w W → As[i].q = some ⟨As[i].g, As[i].o, none⟩ ∧ W.rangeAt As[i].g (As[i].o + j * 3) (vc As[i].els[j]) ∧ As[i].els[j].2.2.size ≤ 256) := HELi
    have hll := hlen.2 As[i] (List.getElem_mem hlt)
    have HL2 : Hid (l ++ (byteOf As[i].kind :: (numB (As[i].els.length : Int) 8 ++ As[i].els.flatMap elB)) = 72 :: (numB (As.length : Int) 8 ++ ((absA As).take (i + 1)).flatMap arB)) := hl2
    clear HELi hl2
    generalize As[i] = y at a0 a1 HEI hll HL2
    obtain ⟨yk, ye, yq, yg, yo⟩ := y
    simp only at a0 a1 HEI hll HL2
    obtain ⟨uq, uc, rfl, -, hur⟩ := own_slice hO.out
    obtain ⟨ug, rfl, -⟩ := hur hn9
    have i0 : (0 : Int) ≤ (i : Int) := by omega
    have i1 : (i : Int) < (As.length : Int) := by omega
    have bx := Box2.new wr (.int .i64 yk) (.slice yq ye.length ye.length) 82
    have nb : Below wr.heap.size wr (wr.alloc (.cells #[.int .i64 yk, .slice yq ye.length ye.length] 82)) := (Below.refl _ wr).alloc (Nat.le_refl _) _
    have oX := own_next hO.out nb
    have BX := below2 hB.out nb
    have zX : wr.heap.size < (wr.alloc (.cells #[.int .i64 yk, .slice yq ye.length ye.length] 82)).heap.size := by simp
    have hug : ug < wr.heap.size := (own_blk hO.out ug rfl).lt
    go_upto_region 5 with fail
    generalize wr.alloc (.cells #[.int .i64 yk, .slice yq ye.length ye.length] 82) = X at bx oX BX zX ⊢
    generalize wr.heap.size = xb at bx zX hug ⊢
    clear a0 a1 nb hO hB hl
    obtain ⟨⟨x0, -⟩, x1, -⟩ := id bx
    have H1 : Hid (∀ u ∈ (#[.int .u8 (yk % 256)] : Array Value).toList, u.oneCell' = true) := fun u hu => by
      obtain rfl := List.mem_singleton.1 (by simpa using hu)
      rfl
    have HOX : Hid (X.ownsRow w.heap.size 5 1 (.slice (some ⟨ug, 0, none⟩) n uc) n (bv l)) := oX
    have HBX : Hid (Below w.heap.size w X) := BX
    have hzX : w.heap.size ≤ X.heap.size := BX.size
    have HB3 : Hid (∀ w3, (X.alloc (.cells #[.int .u8 (yk % 256)] 5)).grownBy w3 (Value.slice (some ⟨ug, 0, none⟩) n uc).ownBlock → Box2 w3 xb (.int .i64 yk) (.slice yq ye.length ye.length) ∧ Below w.heap.size w w3) := fun w3 hg => by
      refine ⟨bx.same ((hg.block xb (by simp; omega) (fun q => ?_)).trans (Below.heap_alloc _ _ _ zX)), (BX.alloc hzX _).grown hg (by simp; omega) (own_ge oX)⟩
      have q' : some xb = some ug := q
      have := Option.some.inj q'
      omega
    clear oX BX
    go_wp2_with (first
      | (at_builtin; (refine wpList_app 87 5 _ 1 1 Tryd.underlying87 info5 (by rfl) (by decide) (by decide) (by rfl) _ _ (by rfl) w.heap.size (.slice (some ⟨ug, 0, none⟩) n uc) n (bv l) (by rfl) HOX.out _ (by rfl) H1.out (by rfl) (by omega) hzX ?_; intro v3 w3 ho3 hg3; obtain ⟨q3, c3, rfl, -, hr3⟩ := own_slice ho3.out; obtain ⟨g3, rfl, -⟩ := hr3 (by omega); obtain ⟨bx3, B3⟩ := HB3.out w3 hg3.out.1; obtain ⟨⟨d0, -⟩, d1, -⟩ := id bx3))
      | fail)
    have e3 : bv (l ++ [byteOf yk]) = bv l ++ [.int .u8 (yk % 256)] := by
      rw [bv_app]
      simp only [bv, List.map_cons, List.map_nil, byteOf_nat]
    have o3 : w3.ownsRow w.heap.size 5 1 (.slice (some ⟨g3, 0, none⟩) (n + 1) c3) (n + 1) (bv (l ++ [byteOf yk])) := by rw [e3]; exact ho3.out
    have hxg : xb ≠ g3 := by
      rcases hg3.out.2 with r | r
      · have r' : some g3 = some ug := r
        have := Option.some.inj r'
        omega
      · have r' : some g3 = some (X.heap.size + 1) := r
        have := Option.some.inj r'
        omega
    have hx3 : xb < w3.heap.size := block_lt_of_cell d0
    have hcn := appNum_any (ye.length : Int) 8 (by decide) w.heap.size _ (n + 1) (l ++ [byteOf yk]) w3 o3 B3.size (by omega)
    have HB4 : Hid (∀ w4 v4, Grew w3 w4 w.heap.size (.slice (some ⟨g3, 0, none⟩) (n + 1) c3) v4 (n + 1 + 8) (l ++ [byteOf yk] ++ numB (ye.length : Int) 8) → w4.cell? ⟨xb, 1, none⟩ = some (.slice yq ye.length ye.length) ∧ Below w.heap.size w w4) := fun w4 v4 hg4 => by
      have e : w4.heap[xb]? = w3.heap[xb]? := hg4.kp.block xb hx3 (fun q => by
        have q' : some g3 = some xb := q
        exact hxg (Option.some.inj q').symm)
      exact ⟨(bx3.same e).2.1, B3.trans (hg4.kp.below (fun k hk => own_ge o3 k hk) B3.size)⟩
    clear ho3 e3 bx bx3 HOX HB3 H1 x0 x1 HBX hur d0
    go_wp2_with fail
    refine hcn.mono ?_
    rintro e w4 ⟨v4, rfl, hg4⟩
    obtain ⟨d1', B4⟩ := HB4.out w4 v4 hg4.out
    have o4 : Hid (w4.ownsRow w.heap.size 5 1 v4 (n + 1 + 8) (bv (l ++ [byteOf yk] ++ numB (ye.length : Int) 8))) := hg4.out.own
    have HB5 : Hid (Below w.heap.size w w4) := B4
    clear hcn hg4 o3 B3 hg3 HB4 d1 hx3 B4
    go_wp2_with fail
    clear d1'
    go_loopw [3, 35] (fun b v wv => ∃ (j n' : Nat) (l' : List UInt8), j ≤ ye.length ∧ v = .int .i64 (j : Int) ∧ Hid (l' = l ++ (byteOf yk :: (numB (ye.length : Int) 8 ++ (ye.take j).flatMap elB))) ∧ n' ≤ 25800018 + 258 * j ∧ 0 < n' ∧ Hid (wv.ownsRow w.heap.size 5 1 b n' (bv l')) ∧ Hid (Below w.heap.size w wv)) (fun _ v _ => ye.length - (intOf v).toNat)
    case atStart =>
      refine ⟨0, n + 1 + 8, _, Nat.zero_le _, rfl, ?_, by omega, by omega, o4, HB5⟩
      show _ = _
      simp
    case round =>
      obtain ⟨j, n', l', hj, rfl, hl', hn1, hn0, hO, hB⟩ := hrel
      by_cases hlt2 : j < ye.length
      case neg =>
        obtain rfl : j = ye.length := by omega
        have hfin : Hid (l' = 72 :: (numB (As.length : Int) 8 ++ ((absA As).take (i + 1)).flatMap arB)) := by
          show l' = _
          rw [hl'.out, List.take_length]
          exact HL2.out
        clear hl' HL2
        obtain ⟨uq, uc', rfl, -, -⟩ := own_slice hO.out
        go_wp2
        exact ⟨⟨i + 1, n', l', by omega, by go_num, hfin, hO, hB⟩, by simp [intOf]; omega⟩
      obtain ⟨rfl, er, et⟩ := HEI.out j hlt2 wr hB.out
      have htk : (ye.take (j + 1)).flatMap elB = (ye.take j).flatMap elB ++ elB ye[j] := by rw [List.take_succ_eq_append_getElem hlt2, List.flatMap_append]; simp
      have HL3 : Hid (l' ++ elB ye[j] = l ++ (byteOf yk :: (numB (ye.length : Int) 8 ++ (ye.take (j + 1)).flatMap elB))) := by
        show _ = _
        rw [hl'.out, htk]
        simp
      clear htk hl'
      have hel := elB_len et
      generalize ye[j] = y at er et HL3 hel
      obtain ⟨vk, vn, vs⟩ := y
      simp only at et
      have a0 : wr.cell? ⟨yg, yo + j * 3, none⟩ = some (.int .i64 vk) := er 0 _ rfl
      have a1 : wr.cell? ⟨yg, yo + j * 3 + 1, none⟩ = some (.int .i64 vn) := er 1 _ rfl
      have a2 : wr.cell? ⟨yg, yo + j * 3 + 2, none⟩ = some (.string vs) := er 2 _ rfl
      have j0 : (0 : Int) ≤ (j : Int) := by omega
      have j1 : (j : Int) < (ye.length : Int) := by omega
      obtain ⟨uq, uc', rfl, -, hur⟩ := own_slice hO.out
      obtain ⟨ug', rfl, -⟩ := hur hn0
      have nb : Below wr.heap.size wr (wr.alloc (.cells #[.int .i64 vk, .int .i64 vn, .string vs] 37)) := (Below.refl _ wr).alloc (Nat.le_refl _) _
      obtain ⟨⟨⟨p0, -⟩, ⟨p1, -⟩⟩, p2, -⟩ := Box3.new wr vk vn vs 37
      have BX := below2 hB.out nb
      have hce := appEl_any vk vn vs et w.heap.size ug' uc' n' l' _ (own_next hO.out nb) BX.size (by omega)
      have hge : Hid (∀ k, (Value.slice (some ⟨ug', 0, none⟩) n' uc').ownBlock = some k → w.heap.size ≤ k) := own_ge hO.out
      generalize elB (vk, vn, vs) = eb at hce HL3 hel
      clear er hO hB hur nb
      go_wp2_with (first | (go_at_call 37; refine hce.mono ?_; rintro e w6 ⟨v6, rfl, hg6⟩; obtain ⟨q6, c6, rfl, -, -⟩ := own_slice hg6.out.own) | go_in)
      refine ⟨⟨j + 1, n' + eb.length, l' ++ eb, by omega, by go_num, HL3, by omega, by omega, hg6.out.own, ?_⟩, by simp [intOf]; omega⟩
      exact BX.trans (hg6.out.kp.below hge.out BX.size)
theorem save_any {w : World} {p lim : Nat} {A : Hp} {F : Nat → Prop} (h : HeapOf w p lim A F) :
    Calls Tryd.prog 16 #[.pointer (some ⟨p, 0, none⟩)] w fun e w' => e = .returned (.string ⟨(saveS A).toArray⟩) ∧ Below w.heap.size w w' := by
  obtain ⟨As, rq, rn, rg, ro, av, rfl, h⟩ := h
  exact save_at h
end Go.Proofs.YtdcioemjmmhbhaaDoor
