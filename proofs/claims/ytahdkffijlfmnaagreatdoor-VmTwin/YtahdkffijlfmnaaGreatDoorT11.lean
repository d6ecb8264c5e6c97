import Derived.Test.YtahdkffijlfmnaaGreatDoorT10
import Derived.Test.YtahdkffijlfmnaaGreatDoorT05
import Derived.Test.YtahdkffijlfmnaaGreatDoorT03
namespace Go.Proofs.YtahdkffijlfmnaaGreatDoor.Hp
open Go.RowKit
def arB (a : Int × List V) : List UInt8 := byteOf a.1 :: (numB (a.2.length : Int) 8 ++ a.2.flatMap elB)
def saveS (A : Hp) : List UInt8 := 72 :: (numB (A.length : Int) 8 ++ A.flatMap arB)
theorem elB_len {v : V} (h : v.2.2.size ≤ 256) : (elB v).length ≤ 258 := by
  unfold elB
  split
  · simp
  split
  · rw [List.length_append, numB_len, ← Lib.size_eq]; omega
  · rw [numB_len]; omega
theorem els_bound : ∀ (l : List V), (∀ v ∈ l, v.2.2.size ≤ 256) → (l.flatMap elB).length ≤ 258 * l.length
  | [], _ => by simp
  | v :: l, h => by
    rw [List.flatMap_cons, List.length_append, List.length_cons]
    have h1 := elB_len (h v (List.mem_cons_self ..))
    have h2 := els_bound l (fun x hx => h x (List.mem_cons_of_mem _ hx))
    omega
theorem ars_bound : ∀ (A : Hp), (∀ a ∈ A, ∀ v ∈ a.2, v.2.2.size ≤ 256) → (A.flatMap arB).length ≤ 258 * usedS A
  | [], _ => by simp
  | a :: A, h => by
    rw [List.flatMap_cons, List.length_append, usedS]
    have h1 := els_bound a.2 (h a (List.mem_cons_self ..))
    have h2 := ars_bound A (fun x hx => h x (List.mem_cons_of_mem _ hx))
    have h3 : (arB a).length = 9 + (a.2.flatMap elB).length := by unfold arB; rw [List.length_cons, List.length_append, numB_len]; omega
    omega
set_option maxRecDepth 100000 in
set_option maxHeartbeats 4000000 in
theorem save_at {w : World} {p : Hpt} {lim : Nat} {As : List Ar} {rq : Option Addr} {rn rg ro : Nat} {av : Value} {F : Nat → Prop} (h : HeapAt w p lim As rq rn rg ro av F) :
    Calls Tryz.prog 39 #[.pointer (some ⟨p.b, p.o, none⟩)] w fun e w' => e = .returned (.string ⟨(saveS (absA As)).toArray⟩) ∧ Below w.heap.size w w' := by
  have hlen := h.len
  have htx : ∀ a ∈ As, ∀ v ∈ a.els, v.2.2.size ≤ 256 := fun a ha v hv => may_small ((h.ok a ha).2 v hv)
  have htot : ((absA As).flatMap arB).length ≤ 25800000 := by
    have h1 := ars_bound (absA As) (fun a ha v hv => by
      unfold absA at ha
      obtain ⟨b, hb, rfl⟩ := List.mem_map.1 ha
      exact htx b hb v hv)
    have h2 := h.le
    have h3 := h.top
    omega
  have HTOT : Hid (∀ i, i ≤ As.length → (((absA As).take i).flatMap arB).length ≤ 25800000) := fun i _ => by
    have e : (absA As).flatMap arB = ((absA As).take i).flatMap arB ++ ((absA As).drop i).flatMap arB := by rw [← List.flatMap_append, List.take_append_drop]
    rw [e, List.length_append] at htot
    omega
  obtain ⟨aq, ac', hav, -, har⟩ := own_slice h.arrs
  subst hav
  have c3 := h.c3
  have hcnt := fun W (hW : Below w.heap.size w W) => count_any (h.next hW)
  have HAR : Hid (∀ i (hi : i < As.length) W, Below w.heap.size w W → ∃ ag, aq = some ⟨ag, 0, none⟩ ∧ W.cell? ⟨ag, i * 2, none⟩ = some (.int .i64 As[i].kind) ∧ W.cell? ⟨ag, i * 2 + 1, none⟩ = some (.slice As[i].q As[i].els.length As[i].els.length)) := fun i hi W hW => by
    obtain ⟨ag, e, hr⟩ := har (by omega)
    have e0' := hr (i * 2 + 0) (.int .i64 As[i].kind) ((flat_at ac 2 (fun _ => rfl) As i 0 hi (by decide)).trans rfl)
    have e1' := hr (i * 2 + 1) (.slice As[i].q As[i].els.length As[i].els.length) ((flat_at ac 2 (fun _ => rfl) As i 1 hi (by decide)).trans rfl)
    rw [Nat.zero_add] at e0' e1'
    rw [Nat.add_zero] at e0'
    exact ⟨ag, e, (hW.cell (p := ⟨ag, _, none⟩) (block_lt_of_cell e0')).trans e0', (hW.cell (p := ⟨ag, _, none⟩) (block_lt_of_cell e1')).trans e1'⟩
  have HEL : Hid (∀ i (hi : i < As.length) j (hj : j < As[i].els.length) W, Below w.heap.size w W → As[i].q = some ⟨As[i].g, As[i].o, none⟩ ∧ W.rangeAt As[i].g (As[i].o + j * 3) (vc As[i].els[j]) ∧ As[i].els[j].2.2.size ≤ 256) := fun i hi j hj W hW => by
    have hmem := List.getElem_mem hi
    obtain ⟨e1, e2, e3, e4⟩ := h.els As[i] hmem (fun q => by rw [q] at hj; simp at hj)
    have e5 := vcs_get e3 j hj
    exact ⟨e1, range_same e5 (hW.block _ e2.lt), htx _ hmem _ (List.getElem_mem hj)⟩
  have HC3 : Hid (∀ W, Below w.heap.size w W → W.cell? ⟨p.b, p.o + 3, none⟩ = some (.slice aq As.length ac')) := fun W hW => (hW.cell (p := ⟨p.b, p.o + 3, none⟩) h.blk.lt).trans c3
  have HS : Hid (saveS (absA As) = 72 :: (numB (As.length : Int) 8 ++ (absA As).flatMap arB)) := by
    show saveS (absA As) = _
    unfold saveS
    rw [abs_len]
  generalize saveS (absA As) = R at HS ⊢
  have hn := World.alloc_heap_new w (.cells #[.int .u8 72] 5)
  have B0 : Below w.heap.size w (w.alloc (.cells #[.int .u8 72] 5)) := (Below.refl _ w).alloc (Nat.le_refl _) _
  have o0 : (w.alloc (.cells #[.int .u8 72] 5)).ownsRow w.heap.size 5 1 (.slice (some ⟨w.heap.size, 0, none⟩) 1 1) 1 (bv [72]) := ⟨rfl, .inr ⟨w.heap.size, 1, _, rfl, Nat.le_refl _, hn, Nat.le_refl _, by decide, rfl, rfl⟩⟩
  clear h htx htot har c3 hn
  go_enter Tryz.func39, Tryz.ntmps39
  go_wp2_with fail
  generalize w.alloc (.cells #[.int .u8 72] 5) = X at B0 o0 ⊢
  refine (hcnt X B0).mono ?_
  rintro e w1 ⟨rfl, hw1⟩
  subst hw1
  have hc := appNum_any (As.length : Int) 8 (by decide) w.heap.size _ 1 [72] w1 o0 B0.size (by decide)
  clear hcnt
  go_wp2_with fail
  refine hc.mono ?_
  rintro e w2 ⟨v2, rfl, hg2⟩
  have o2 := hg2.out.own
  have B2 : Below w.heap.size w w2 := B0.trans (hg2.out.kp.below (fun k hk => by cases hk; exact Nat.le_refl _) B0.size)
  have c3 := HC3.out w2 B2
  clear hc hg2 o0 B0
  go_wp2_with fail
  go_loopw [3, 17] (fun b v wr => ∃ (i n : Nat) (l : List UInt8), i ≤ As.length ∧ v = .int .i64 (i : Int) ∧ Hid (l = 72 :: (numB (As.length : Int) 8 ++ ((absA As).take i).flatMap arB)) ∧ Hid (wr.ownsRow w.heap.size 5 1 b n (bv l)) ∧ Hid (Below w.heap.size w wr)) (fun _ v _ => As.length - (intOf v).toNat)
  case atStart => exact ⟨0, 9, _, Nat.zero_le _, rfl, rfl, by rw [List.take_zero, List.flatMap_nil, List.append_nil]; exact o2, B2⟩
  case round =>
    obtain ⟨i, n, l, hi, rfl, hl, hO, hB⟩ := hrel
    clear o2 B2 c3
    have hnl : n = l.length := by have := hO.out.1; rw [bv_len] at this; omega
    have hnb : n ≤ 25800009 := by
      have := HTOT.out i hi
      rw [hnl, hl.out, List.length_cons, List.length_append, numB_len]
      omega
    clear hnl
    by_cases hlt : i < As.length
    case neg =>
      obtain rfl : i = As.length := by omega
      have e : (absA As).take As.length = absA As := by rw [← abs_len, List.take_length]
      rw [e, ← HS.out] at hl
      have hcv := conv_own hO.out
      rw [hl.out] at hcv
      obtain ⟨q, c, rfl, -, -⟩ := own_slice hO.out
      clear e
      go_wp2
      first | (change bodyPost Tryz.prog Tryz.f39 _ Exit.ret _ _) | (simp only [Exit.noGoto])
      go_ret
      exact ⟨rfl, hB.out⟩
    have hl2 : l ++ arB (As[i].kind, As[i].els) = 72 :: (numB (As.length : Int) 8 ++ ((absA As).take (i + 1)).flatMap arB) := by
      have e : (absA As).take (i + 1) = (absA As).take i ++ [(As[i].kind, As[i].els)] := by
        rw [List.take_succ_eq_append_getElem (by rw [abs_len]; exact hlt)]
        simp [absA]
      rw [hl.out, e, List.flatMap_append]
      simp
    have hn9 : 0 < n := by
      have := hO.out.1
      rw [bv_len, hl.out, List.length_cons] at this
      omega
    obtain ⟨ag, rfl, a0, a1⟩ := HAR.out i hlt wr hB.out
    have HELi := fun j hj W hW => HEL.out i hlt j hj W hW
    have HEI : Hid (∀ j (hj : j < As[i].els.length) W, Below w.heap.size w W → As[i].q = some ⟨As[i].g, As[i].o, none⟩ ∧ W.rangeAt As[i].g (As[i].o + j * 3) (vc As[i].els[j]) ∧ As[i].els[j].2.2.size ≤ 256) := HELi
    have hll := hlen.2 As[i] (List.getElem_mem hlt)
    have HL2 : Hid (l ++ (byteOf As[i].kind :: (numB (As[i].els.length : Int) 8 ++ As[i].els.flatMap elB)) = 72 :: (numB (As.length : Int) 8 ++ ((absA As).take (i + 1)).flatMap arB)) := hl2
    clear HELi hl2
    generalize As[i] = y at a0 a1 HEI hll HL2
    obtain ⟨yk, ye, yq, yg, yo⟩ := y
    simp only at a0 a1 HEI hll HL2
    obtain ⟨uq, uc, rfl, -, hur⟩ := own_slice hO.out
    obtain ⟨ug, rfl, -⟩ := hur hn9
    have i0 : (0 : Int) ≤ (i : Int) := by omega
    have i1 : (i : Int) < (As.length : Int) := by omega
    have bx := Box2.new wr (.int .i64 yk) (.slice yq ye.length ye.length) 117
    have nb : Below wr.heap.size wr (wr.alloc (.cells #[.int .i64 yk, .slice yq ye.length ye.length] 117)) := (Below.refl _ wr).alloc (Nat.le_refl _) _
    have oX := own_next hO.out nb
    have BX := below2 hB.out nb
    have zX : wr.heap.size < (wr.alloc (.cells #[.int .i64 yk, .slice yq ye.length ye.length] 117)).heap.size := by simp
    have hug : ug < wr.heap.size := (own_blk hO.out ug rfl).lt
    go_upto_region 5 with fail
    generalize wr.alloc (.cells #[.int .i64 yk, .slice yq ye.length ye.length] 117) = X at bx oX BX zX ⊢
    generalize wr.heap.size = xb at bx zX hug ⊢
    clear a0 a1 nb hO hB hl
    obtain ⟨⟨x0, -⟩, x1, -⟩ := id bx
    have H1 : Hid (∀ u ∈ (#[.int .u8 (yk % 256)] : Array Value).toList, u.oneCell' = true) := fun u hu => by
      obtain rfl := List.mem_singleton.1 (by simpa using hu)
      rfl
    have HOX : Hid (X.ownsRow w.heap.size 5 1 (.slice (some ⟨ug, 0, none⟩) n uc) n (bv l)) := oX
    have HBX : Hid (Below w.heap.size w X) := BX
    have hzX : w.heap.size ≤ X.heap.size := BX.size
    have HB3 : Hid (∀ w3, (X.alloc (.cells #[.int .u8 (yk % 256)] 5)).grownBy w3 (Value.slice (some ⟨ug, 0, none⟩) n uc).ownBlock → Box2 w3 xb (.int .i64 yk) (.slice yq ye.length ye.length) ∧ Below w.heap.size w w3) := fun w3 hg => by
      refine ⟨bx.same ((hg.block xb (by simp; omega) (fun q => ?_)).trans (Below.heap_alloc _ _ _ zX)), (BX.alloc hzX _).grown hg (by simp; omega) (own_ge oX)⟩
      have q' : some xb = some ug := q
      have := Option.some.inj q'
      omega
    clear oX BX
    go_wp2_with (first
      | (at_builtin; (refine wpList_app 80 5 _ 1 1 Tryz.underlying80 info5 (by rfl) (by decide) (by decide) (by rfl) _ _ (by rfl) w.heap.size (.slice (some ⟨ug, 0, none⟩) n uc) n (bv l) (by rfl) HOX.out _ (by rfl) H1.out (by rfl) (by omega) hzX ?_; intro v3 w3 ho3 hg3; obtain ⟨q3, c3, rfl, -, hr3⟩ := own_slice ho3.out; obtain ⟨g3, rfl, -⟩ := hr3 (by omega); obtain ⟨bx3, B3⟩ := HB3.out w3 hg3.out.1; obtain ⟨⟨d0, -⟩, d1, -⟩ := id bx3))
      | fail)
    have e3 : bv (l ++ [byteOf yk]) = bv l ++ [.int .u8 (yk % 256)] := by
      rw [bv_app]
      simp only [bv, List.map_cons, List.map_nil, byteOf_nat]
    have o3 : w3.ownsRow w.heap.size 5 1 (.slice (some ⟨g3, 0, none⟩) (n + 1) c3) (n + 1) (bv (l ++ [byteOf yk])) := by rw [e3]; exact ho3.out
    have hxg : xb ≠ g3 := by
      rcases hg3.out.2 with r | r
      · have r' : some g3 = some ug := r
        have := Option.some.inj r'
        omega
      · have r' : some g3 = some (X.heap.size + 1) := r
        have := Option.some.inj r'
        omega
    have hx3 : xb < w3.heap.size := block_lt_of_cell d0
    have hcn := appNum_any (ye.length : Int) 8 (by decide) w.heap.size _ (n + 1) (l ++ [byteOf yk]) w3 o3 B3.size (by omega)
    have HB4 : Hid (∀ w4 v4, Grew w3 w4 w.heap.size (.slice (some ⟨g3, 0, none⟩) (n + 1) c3) v4 (n + 1 + 8) (l ++ [byteOf yk] ++ numB (ye.length : Int) 8) → w4.cell? ⟨xb, 1, none⟩ = some (.slice yq ye.length ye.length) ∧ Below w.heap.size w w4) := fun w4 v4 hg4 => by
      have e : w4.heap[xb]? = w3.heap[xb]? := hg4.kp.block xb hx3 (fun q => by
        have q' : some g3 = some xb := q
        exact hxg (Option.some.inj q').symm)
      exact ⟨(bx3.same e).2.1, B3.trans (hg4.kp.below (fun k hk => own_ge o3 k hk) B3.size)⟩
    clear ho3 e3 bx bx3 HOX HB3 H1 x0 x1 HBX hur d0
    go_wp2_with fail
    refine hcn.mono ?_
    rintro e w4 ⟨v4, rfl, hg4⟩
    obtain ⟨d1', B4⟩ := HB4.out w4 v4 hg4.out
    have o4 : Hid (w4.ownsRow w.heap.size 5 1 v4 (n + 1 + 8) (bv (l ++ [byteOf yk] ++ numB (ye.length : Int) 8))) := hg4.out.own
    have HB5 : Hid (Below w.heap.size w w4) := B4
    clear hcn hg4 o3 B3 hg3 HB4 d1 hx3 B4
    go_wp2_with fail
    clear d1'
    go_loopw [3, 35] (fun b v wv => ∃ (j n' : Nat) (l' : List UInt8), j ≤ ye.length ∧ v = .int .i64 (j : Int) ∧ Hid (l' = l ++ (byteOf yk :: (numB (ye.length : Int) 8 ++ (ye.take j).flatMap elB))) ∧ n' ≤ 25800018 + 258 * j ∧ 0 < n' ∧ Hid (wv.ownsRow w.heap.size 5 1 b n' (bv l')) ∧ Hid (Below w.heap.size w wv)) (fun _ v _ => ye.length - (intOf v).toNat)
    case atStart =>
      refine ⟨0, n + 1 + 8, _, Nat.zero_le _, rfl, ?_, by omega, by omega, o4, HB5⟩
      show _ = _
      simp
    case round =>
      obtain ⟨j, n', l', hj, rfl, hl', hn1, hn0, hO, hB⟩ := hrel
      by_cases hlt2 : j < ye.length
      case neg =>
        obtain rfl : j = ye.length := by omega
        have hfin : Hid (l' = 72 :: (numB (As.length : Int) 8 ++ ((absA As).take (i + 1)).flatMap arB)) := by
          show l' = _
          rw [hl'.out, List.take_length]
          exact HL2.out
        clear hl' HL2
        obtain ⟨uq, uc', rfl, -, -⟩ := own_slice hO.out
        go_wp2
        exact ⟨⟨i + 1, n', l', by omega, by go_num, hfin, hO, hB⟩, by simp [intOf]; omega⟩
      obtain ⟨rfl, er, et⟩ := HEI.out j hlt2 wr hB.out
      have htk : (ye.take (j + 1)).flatMap elB = (ye.take j).flatMap elB ++ elB ye[j] := by rw [List.take_succ_eq_append_getElem hlt2, List.flatMap_append]; simp
      have HL3 : Hid (l' ++ elB ye[j] = l ++ (byteOf yk :: (numB (ye.length : Int) 8 ++ (ye.take (j + 1)).flatMap elB))) := by
        show _ = _
        rw [hl'.out, htk]
        simp
      clear htk hl'
      have hel := elB_len et
      generalize ye[j] = y at er et HL3 hel
      obtain ⟨vk, vn, vs⟩ := y
      simp only at et
      have a0 : wr.cell? ⟨yg, yo + j * 3, none⟩ = some (.int .i64 vk) := er 0 _ rfl
      have a1 : wr.cell? ⟨yg, yo + j * 3 + 1, none⟩ = some (.int .i64 vn) := er 1 _ rfl
      have a2 : wr.cell? ⟨yg, yo + j * 3 + 2, none⟩ = some (.string vs) := er 2 _ rfl
      have j0 : (0 : Int) ≤ (j : Int) := by omega
      have j1 : (j : Int) < (ye.length : Int) := by omega
      obtain ⟨uq, uc', rfl, -, hur⟩ := own_slice hO.out
      obtain ⟨ug', rfl, -⟩ := hur hn0
      have nb : Below wr.heap.size wr (wr.alloc (.cells #[.int .i64 vk, .int .i64 vn, .string vs] 52)) := (Below.refl _ wr).alloc (Nat.le_refl _) _
      obtain ⟨⟨⟨p0, -⟩, ⟨p1, -⟩⟩, p2, -⟩ := Box3.new wr vk vn vs 52
      have BX := below2 hB.out nb
      have hce := appEl_any vk vn vs et w.heap.size ug' uc' n' l' _ (own_next hO.out nb) BX.size (by omega)
      have hge : Hid (∀ k, (Value.slice (some ⟨ug', 0, none⟩) n' uc').ownBlock = some k → w.heap.size ≤ k) := own_ge hO.out
      generalize elB (vk, vn, vs) = eb at hce HL3 hel
      clear er hO hB hur nb
      go_wp2_with (first | (go_at_call 60; refine hce.mono ?_; rintro e w6 ⟨v6, rfl, hg6⟩; obtain ⟨q6, c6, rfl, -, -⟩ := own_slice hg6.out.own) | go_in)
      refine ⟨⟨j + 1, n' + eb.length, l' ++ eb, by omega, by go_num, HL3, by omega, by omega, hg6.out.own, ?_⟩, by simp [intOf]; omega⟩
      exact BX.trans (hg6.out.kp.below hge.out BX.size)
theorem save_any {w : World} {p : Hpt} {lim : Nat} {A : Hp} {F : Nat → Prop} (h : HeapOf w p lim A F) :
    Calls Tryz.prog 39 #[.pointer (some ⟨p.b, p.o, none⟩)] w fun e w' => e = .returned (.string ⟨(saveS A).toArray⟩) ∧ Below w.heap.size w w' := by
  obtain ⟨As, rq, rn, rg, ro, av, rfl, h⟩ := h
  exact save_at h
end Go.Proofs.YtahdkffijlfmnaaGreatDoor.Hp

namespace Go.Proofs.YtahdkffijlfmnaaGreatDoor.Hp
open Go.RowKit
set_option maxHeartbeats 400000 in
theorem clone_anyV (s : ByteArray) (w : World) (hs : s.size ≤ 281474976710656) : Calls Tryz.prog 48 #[.string s] w fun e w' => e = .returned (.string s) ∧ Below w.heap.size w w' := by
  go_enter Tryz.func48, Tryz.ntmps48
  go_wp2_with (go_at_call 69; refine (Tryz.stringslite_Clone s w hs).mono ?_; rintro e w1 ⟨rfl, hb1⟩)
  go_ret
  exact ⟨rfl, hb1⟩
def isS (k n : Int) (s : ByteArray) (K : Int) : Bool := k == K && okV k n s
set_option maxRecDepth 100000 in
set_option maxHeartbeats 1000000 in
theorem is_any (k n : Int) (s : ByteArray) (K : Int) (w : World) (hs : s.size ≤ 9223372036854775807) : Calls Tryz.prog 128 #[.agg #[.int .i64 k, .int .i64 n, .string s], .int .i64 K] w fun e w' => e = .returned (.bool (isS k n s K)) ∧ Below w.heap.size w w' := by
  have B1 : Below w.heap.size w (w.alloc (.cells #[.int .i64 k, .int .i64 n, .string s] 52)) := (Below.refl _ w).alloc (Nat.le_refl _) _
  unfold isS
  by_cases h : k = K
  · subst h
    rw [show (k == k && okV k n s) = okV k n s by simp]
    go_enter Tryz.func128, Tryz.ntmps128
    go_wp2_with fail
    refine (valid_any k n s _ hs).mono ?_
    rintro e w1 ⟨rfl, hb⟩
    go_wp2
    go_ret
    exact ⟨rfl, B1.trans (hb.mono B1.size)⟩
  · rw [show (k == K && okV k n s) = false by simp [h]]
    go_enter Tryz.func128, Tryz.ntmps128
    go_wp2
    go_ret
    exact ⟨rfl, B1⟩
set_option maxRecDepth 100000 in
set_option maxHeartbeats 1000000 in
theorem joined_any (a b : ByteArray) (w : World) (ha : a.size ≤ 256) (hb0 : b.size ≤ 256) : Calls Tryz.prog 138 #[.string a, .string b] w fun e w' => e = .returned (.tuple #[.agg #[.int .i64 (textsS 3 a b).1, .int .i64 (textsS 3 a b).2.1, .string (textsS 3 a b).2.2.1], .int .i64 (textsS 3 a b).2.2.2]) ∧ Below w.heap.size w w' := by
  have B1 : Below w.heap.size w (w.alloc (.cells #[.int .i64 0, .int .i64 0, .string e0] 52)) := (Below.refl _ w).alloc (Nat.le_refl _) _
  by_cases h : 256 < a.size + b.size
  · rw [show textsS 3 a b = (0, 0, e0, 6) by unfold textsS; rw [if_pos rfl, if_pos h]]
    go_enter Tryz.func138, Tryz.ntmps138
    go_wp2
    exact bodyPost_ret (v := .tuple #[.agg #[.int .i64 0, .int .i64 0, .string e0], .int .i64 6]) (by simp [results, Tryz.results138, go_sem]) rfl ⟨rfl, B1⟩
  · rw [show textsS 3 a b = (3, 0, a ++ b, 0) by unfold textsS; rw [if_pos rfl, if_neg h]]
    go_enter Tryz.func138, Tryz.ntmps138
    go_wp2_with fail
    refine (clone_anyV _ _ (by rw [ByteArray.size_append]; omega)).mono ?_
    rintro e w1 ⟨rfl, hb⟩
    have m1 := (Box3.new w 0 0 e0 52).below hb (by simp)
    obtain ⟨⟨⟨q0, f0⟩, ⟨q1, f1⟩⟩, q2, f2⟩ := id m1
    have hB : Below w.heap.size w w1 := B1.trans (hb.mono B1.size)
    have B2 : Below w.heap.size w (put3 w1 w.heap.size (3) (0) (a ++ b)) := below_put3 hB (by omega) _ _ _
    have m2 := m1.put (3) (0) (a ++ b)
    go_wp2
    change bodyPost Tryz.prog _ _ _ _ (put3 w1 (w.heap.size) _ _ _)
    generalize put3 w1 (w.heap.size) (3) (0) (a ++ b) = X at B2 m2 ⊢
    obtain ⟨⟨⟨p0, -⟩, ⟨p1, -⟩⟩, p2, -⟩ := m2
    exact bodyPost_ret (v := .tuple #[.agg #[.int .i64 (3), .int .i64 (0), .string (a ++ b)], .int .i64 (0)]) (by simp [results, Tryz.results138, go_sem, p0, p1, p2]) rfl ⟨rfl, B2⟩
set_option maxRecDepth 100000 in
set_option maxHeartbeats 1000000 in
theorem ofInts_any (op a b : Int) (w : World) : Calls Tryz.prog 131 #[.int .i64 op, .int .i64 a, .int .i64 b] w fun e w' => e = .returned (.tuple #[.agg #[.int .i64 (intsS op a b).1, .int .i64 (intsS op a b).2.1, .string (intsS op a b).2.2.1], .int .i64 (intsS op a b).2.2.2]) ∧ Below w.heap.size w w' := by
  have B1 : Below w.heap.size w (w.alloc (.cells #[.int .i64 0, .int .i64 0, .string e0] 52)) := (Below.refl _ w).alloc (Nat.le_refl _) _
  by_cases h3 : op = 3
  · subst h3
    rw [show intsS 3 a b = (1, wrap64 (a + b), e0, 0) from rfl]
    go_enter Tryz.func131, Tryz.ntmps131
    go_wp2_with fail
    refine (number_any (wrap64 (a + b)) _).mono ?_
    rintro e w1 ⟨rfl, hb⟩
    have m1 := (Box3.new w 0 0 e0 52).below hb (by simp)
    obtain ⟨⟨⟨q0, f0⟩, ⟨q1, f1⟩⟩, q2, f2⟩ := id m1
    have hB : Below w.heap.size w w1 := B1.trans (hb.mono B1.size)
    have B2 : Below w.heap.size w (put3 w1 w.heap.size (1) (wrap64 (a + b)) (e0)) := below_put3 hB (by omega) _ _ _
    have m2 := m1.put (1) (wrap64 (a + b)) (e0)
    go_wp2
    change bodyPost Tryz.prog _ _ _ _ (put3 w1 (w.heap.size) _ _ _)
    generalize put3 w1 (w.heap.size) (1) (wrap64 (a + b)) (e0) = X at B2 m2 ⊢
    obtain ⟨⟨⟨p0, -⟩, ⟨p1, -⟩⟩, p2, -⟩ := m2
    exact bodyPost_ret (v := .tuple #[.agg #[.int .i64 (1), .int .i64 (wrap64 (a + b)), .string (e0)], .int .i64 (0)]) (by simp [results, Tryz.results131, go_sem, p0, p1, p2]) rfl ⟨rfl, B2⟩
  by_cases h4 : op = 4
  · subst h4
    rw [show intsS 4 a b = (1, wrap64 (a - b), e0, 0) from rfl]
    go_enter Tryz.func131, Tryz.ntmps131
    go_wp2_with fail
    refine (number_any (wrap64 (a - b)) _).mono ?_
    rintro e w1 ⟨rfl, hb⟩
    have m1 := (Box3.new w 0 0 e0 52).below hb (by simp)
    obtain ⟨⟨⟨q0, f0⟩, ⟨q1, f1⟩⟩, q2, f2⟩ := id m1
    have hB : Below w.heap.size w w1 := B1.trans (hb.mono B1.size)
    have B2 : Below w.heap.size w (put3 w1 w.heap.size (1) (wrap64 (a - b)) (e0)) := below_put3 hB (by omega) _ _ _
    have m2 := m1.put (1) (wrap64 (a - b)) (e0)
    go_wp2
    change bodyPost Tryz.prog _ _ _ _ (put3 w1 (w.heap.size) _ _ _)
    generalize put3 w1 (w.heap.size) (1) (wrap64 (a - b)) (e0) = X at B2 m2 ⊢
    obtain ⟨⟨⟨p0, -⟩, ⟨p1, -⟩⟩, p2, -⟩ := m2
    exact bodyPost_ret (v := .tuple #[.agg #[.int .i64 (1), .int .i64 (wrap64 (a - b)), .string (e0)], .int .i64 (0)]) (by simp [results, Tryz.results131, go_sem, p0, p1, p2]) rfl ⟨rfl, B2⟩
  by_cases h5 : op = 5
  · subst h5
    rw [show intsS 5 a b = (1, wrap64 (a * b), e0, 0) from rfl]
    go_enter Tryz.func131, Tryz.ntmps131
    go_wp2_with fail
    refine (number_any (wrap64 (a * b)) _).mono ?_
    rintro e w1 ⟨rfl, hb⟩
    have m1 := (Box3.new w 0 0 e0 52).below hb (by simp)
    obtain ⟨⟨⟨q0, f0⟩, ⟨q1, f1⟩⟩, q2, f2⟩ := id m1
    have hB : Below w.heap.size w w1 := B1.trans (hb.mono B1.size)
    have B2 : Below w.heap.size w (put3 w1 w.heap.size (1) (wrap64 (a * b)) (e0)) := below_put3 hB (by omega) _ _ _
    have m2 := m1.put (1) (wrap64 (a * b)) (e0)
    go_wp2
    change bodyPost Tryz.prog _ _ _ _ (put3 w1 (w.heap.size) _ _ _)
    generalize put3 w1 (w.heap.size) (1) (wrap64 (a * b)) (e0) = X at B2 m2 ⊢
    obtain ⟨⟨⟨p0, -⟩, ⟨p1, -⟩⟩, p2, -⟩ := m2
    exact bodyPost_ret (v := .tuple #[.agg #[.int .i64 (1), .int .i64 (wrap64 (a * b)), .string (e0)], .int .i64 (0)]) (by simp [results, Tryz.results131, go_sem, p0, p1, p2]) rfl ⟨rfl, B2⟩
  by_cases h6 : op = 6
  · subst h6
    by_cases z : b = 0
    · subst z
      rw [show intsS 6 a 0 = (0, 0, e0, 1) from rfl]
      go_enter Tryz.func131, Tryz.ntmps131
      go_wp2
      exact bodyPost_ret (v := .tuple #[.agg #[.int .i64 0, .int .i64 0, .string e0], .int .i64 1]) (by simp [results, Tryz.results131, go_sem]) rfl ⟨rfl, B1⟩
    rw [show intsS 6 a b = (1, wrap64 (a.tdiv b), e0, 0) by unfold intsS; simp [z, numS]]
    go_enter Tryz.func131, Tryz.ntmps131
    go_wp2_with fail
    refine (number_any (wrap64 (a.tdiv b)) _).mono ?_
    rintro e w1 ⟨rfl, hb⟩
    have m1 := (Box3.new w 0 0 e0 52).below hb (by simp)
    obtain ⟨⟨⟨q0, f0⟩, ⟨q1, f1⟩⟩, q2, f2⟩ := id m1
    have hB : Below w.heap.size w w1 := B1.trans (hb.mono B1.size)
    have B2 : Below w.heap.size w (put3 w1 w.heap.size (1) (wrap64 (a.tdiv b)) (e0)) := below_put3 hB (by omega) _ _ _
    have m2 := m1.put (1) (wrap64 (a.tdiv b)) (e0)
    go_wp2
    change bodyPost Tryz.prog _ _ _ _ (put3 w1 (w.heap.size) _ _ _)
    generalize put3 w1 (w.heap.size) (1) (wrap64 (a.tdiv b)) (e0) = X at B2 m2 ⊢
    obtain ⟨⟨⟨p0, -⟩, ⟨p1, -⟩⟩, p2, -⟩ := m2
    exact bodyPost_ret (v := .tuple #[.agg #[.int .i64 (1), .int .i64 (wrap64 (a.tdiv b)), .string (e0)], .int .i64 (0)]) (by simp [results, Tryz.results131, go_sem, p0, p1, p2]) rfl ⟨rfl, B2⟩
  by_cases h7 : op = 7
  · subst h7
    by_cases z : b = 0
    · subst z
      rw [show intsS 7 a 0 = (0, 0, e0, 1) from rfl]
      go_enter Tryz.func131, Tryz.ntmps131
      go_wp2
      exact bodyPost_ret (v := .tuple #[.agg #[.int .i64 0, .int .i64 0, .string e0], .int .i64 1]) (by simp [results, Tryz.results131, go_sem]) rfl ⟨rfl, B1⟩
    rw [show intsS 7 a b = (1, a.tmod b, e0, 0) by unfold intsS; simp [z, numS]]
    go_enter Tryz.func131, Tryz.ntmps131
    go_wp2_with fail
    refine (number_any (a.tmod b) _).mono ?_
    rintro e w1 ⟨rfl, hb⟩
    have m1 := (Box3.new w 0 0 e0 52).below hb (by simp)
    obtain ⟨⟨⟨q0, f0⟩, ⟨q1, f1⟩⟩, q2, f2⟩ := id m1
    have hB : Below w.heap.size w w1 := B1.trans (hb.mono B1.size)
    have B2 : Below w.heap.size w (put3 w1 w.heap.size (1) (a.tmod b) (e0)) := below_put3 hB (by omega) _ _ _
    have m2 := m1.put (1) (a.tmod b) (e0)
    go_wp2
    change bodyPost Tryz.prog _ _ _ _ (put3 w1 (w.heap.size) _ _ _)
    generalize put3 w1 (w.heap.size) (1) (a.tmod b) (e0) = X at B2 m2 ⊢
    obtain ⟨⟨⟨p0, -⟩, ⟨p1, -⟩⟩, p2, -⟩ := m2
    exact bodyPost_ret (v := .tuple #[.agg #[.int .i64 (1), .int .i64 (a.tmod b), .string (e0)], .int .i64 (0)]) (by simp [results, Tryz.results131, go_sem, p0, p1, p2]) rfl ⟨rfl, B2⟩
  rw [show intsS op a b = cmpS op (cmpI a b) by unfold intsS; rw [if_neg h3, if_neg h4, if_neg h5, if_neg h6, if_neg h7]]
  have c : ∀ W : World, Calls Tryz.prog 137 #[.int .i64 op, .int .i64 a, .int .i64 b] W fun e w' => e = .returned (.tuple #[.agg #[.int .i64 (cmpS op (cmpI a b)).1, .int .i64 (cmpS op (cmpI a b)).2.1, .string (cmpS op (cmpI a b)).2.2.1], .int .i64 (cmpS op (cmpI a b)).2.2.2]) ∧ Below W.heap.size W w' := comparedI_any op a b
  generalize cmpS op (cmpI a b) = r at c ⊢
  obtain ⟨K, N, S, T⟩ := r
  go_enter Tryz.func131, Tryz.ntmps131
  go_wp2_with fail
  refine (c _).mono ?_
  rintro e w1 ⟨rfl, hb⟩
  have m1 := (Box3.new w 0 0 e0 52).below hb (by simp)
  obtain ⟨⟨⟨q0, f0⟩, ⟨q1, f1⟩⟩, q2, f2⟩ := id m1
  have hB : Below w.heap.size w w1 := B1.trans (hb.mono B1.size)
  have B2 : Below w.heap.size w (put3 w1 w.heap.size (K) (N) (S)) := below_put3 hB (by omega) _ _ _
  have m2 := m1.put (K) (N) (S)
  go_wp2
  change bodyPost Tryz.prog _ _ _ _ (put3 w1 (w.heap.size) _ _ _)
  generalize put3 w1 (w.heap.size) (K) (N) (S) = X at B2 m2 ⊢
  obtain ⟨⟨⟨p0, -⟩, ⟨p1, -⟩⟩, p2, -⟩ := m2
  exact bodyPost_ret (v := .tuple #[.agg #[.int .i64 (K), .int .i64 (N), .string (S)], .int .i64 (T)]) (by simp [results, Tryz.results131, go_sem, p0, p1, p2]) rfl ⟨rfl, B2⟩
set_option maxRecDepth 100000 in
set_option maxHeartbeats 1000000 in
theorem ofTexts_any (op : Int) (a b : ByteArray) (w : World) (ha : a.size ≤ 256) (hb0 : b.size ≤ 256) : Calls Tryz.prog 132 #[.int .i64 op, .string a, .string b] w fun e w' => e = .returned (.tuple #[.agg #[.int .i64 (textsS op a b).1, .int .i64 (textsS op a b).2.1, .string (textsS op a b).2.2.1], .int .i64 (textsS op a b).2.2.2]) ∧ Below w.heap.size w w' := by
  have B1 : Below w.heap.size w (w.alloc (.cells #[.int .i64 0, .int .i64 0, .string e0] 52)) := (Below.refl _ w).alloc (Nat.le_refl _) _
  by_cases h3 : op = 3
  · subst h3
    have c : ∀ W : World, Calls Tryz.prog 138 #[.string a, .string b] W fun e w' => e = .returned (.tuple #[.agg #[.int .i64 (textsS 3 a b).1, .int .i64 (textsS 3 a b).2.1, .string (textsS 3 a b).2.2.1], .int .i64 (textsS 3 a b).2.2.2]) ∧ Below W.heap.size W w' := fun W => joined_any a b W ha hb0
    generalize textsS 3 a b = r at c ⊢
    obtain ⟨K, N, S, T⟩ := r
    go_enter Tryz.func132, Tryz.ntmps132
    go_wp2_with fail
    refine (c _).mono ?_
    rintro e w1 ⟨rfl, hb⟩
    have m1 := (Box3.new w 0 0 e0 52).below hb (by simp)
    obtain ⟨⟨⟨q0, f0⟩, ⟨q1, f1⟩⟩, q2, f2⟩ := id m1
    have hB : Below w.heap.size w w1 := B1.trans (hb.mono B1.size)
    have B2 : Below w.heap.size w (put3 w1 w.heap.size (K) (N) (S)) := below_put3 hB (by omega) _ _ _
    have m2 := m1.put (K) (N) (S)
    go_wp2
    change bodyPost Tryz.prog _ _ _ _ (put3 w1 (w.heap.size) _ _ _)
    generalize put3 w1 (w.heap.size) (K) (N) (S) = X at B2 m2 ⊢
    obtain ⟨⟨⟨p0, -⟩, ⟨p1, -⟩⟩, p2, -⟩ := m2
    exact bodyPost_ret (v := .tuple #[.agg #[.int .i64 (K), .int .i64 (N), .string (S)], .int .i64 (T)]) (by simp [results, Tryz.results132, go_sem, p0, p1, p2]) rfl ⟨rfl, B2⟩
  rw [show textsS op a b = cmpS op (cmpT a b) by unfold textsS; rw [if_neg h3]]
  have c : ∀ W : World, Calls Tryz.prog 139 #[.int .i64 op, .string a, .string b] W fun e w' => e = .returned (.tuple #[.agg #[.int .i64 (cmpS op (cmpT a b)).1, .int .i64 (cmpS op (cmpT a b)).2.1, .string (cmpS op (cmpT a b)).2.2.1], .int .i64 (cmpS op (cmpT a b)).2.2.2]) ∧ Below W.heap.size W w' := comparedT_any op a b
  generalize cmpS op (cmpT a b) = r at c ⊢
  obtain ⟨K, N, S, T⟩ := r
  go_enter Tryz.func132, Tryz.ntmps132
  go_wp2_with fail
  refine (c _).mono ?_
  rintro e w1 ⟨rfl, hb⟩
  have m1 := (Box3.new w 0 0 e0 52).below hb (by simp)
  obtain ⟨⟨⟨q0, f0⟩, ⟨q1, f1⟩⟩, q2, f2⟩ := id m1
  have hB : Below w.heap.size w w1 := B1.trans (hb.mono B1.size)
  have B2 : Below w.heap.size w (put3 w1 w.heap.size (K) (N) (S)) := below_put3 hB (by omega) _ _ _
  have m2 := m1.put (K) (N) (S)
  go_wp2
  change bodyPost Tryz.prog _ _ _ _ (put3 w1 (w.heap.size) _ _ _)
  generalize put3 w1 (w.heap.size) (K) (N) (S) = X at B2 m2 ⊢
  obtain ⟨⟨⟨p0, -⟩, ⟨p1, -⟩⟩, p2, -⟩ := m2
  exact bodyPost_ret (v := .tuple #[.agg #[.int .i64 (K), .int .i64 (N), .string (S)], .int .i64 (T)]) (by simp [results, Tryz.results132, go_sem, p0, p1, p2]) rfl ⟨rfl, B2⟩
set_option maxRecDepth 100000 in
set_option maxHeartbeats 1000000 in
theorem ofNames_any (op a b : Int) (w : World) : Calls Tryz.prog 133 #[.int .i64 op, .int .i64 a, .int .i64 b] w fun e w' => e = .returned (.tuple #[.agg #[.int .i64 (namesS op a b).1, .int .i64 (namesS op a b).2.1, .string (namesS op a b).2.2.1], .int .i64 (namesS op a b).2.2.2]) ∧ Below w.heap.size w w' := by
  have B1 : Below w.heap.size w (w.alloc (.cells #[.int .i64 0, .int .i64 0, .string e0] 52)) := (Below.refl _ w).alloc (Nat.le_refl _) _
  have c : ∀ W : World, Calls Tryz.prog 137 #[.int .i64 op, .int .i64 a, .int .i64 b] W fun e w' => e = .returned (.tuple #[.agg #[.int .i64 (cmpS op (cmpI a b)).1, .int .i64 (cmpS op (cmpI a b)).2.1, .string (cmpS op (cmpI a b)).2.2.1], .int .i64 (cmpS op (cmpI a b)).2.2.2]) ∧ Below W.heap.size W w' := comparedI_any op a b
  by_cases h8 : op = 8
  · subst h8
    rw [show namesS 8 a b = cmpS 8 (cmpI a b) from rfl]
    generalize cmpS 8 (cmpI a b) = r at c ⊢
    obtain ⟨K, N, S, T⟩ := r
    go_enter Tryz.func133, Tryz.ntmps133
    go_wp2_with fail
    refine (c _).mono ?_
    rintro e w1 ⟨rfl, hb⟩
    have m1 := (Box3.new w 0 0 e0 52).below hb (by simp)
    obtain ⟨⟨⟨q0, f0⟩, ⟨q1, f1⟩⟩, q2, f2⟩ := id m1
    have hB : Below w.heap.size w w1 := B1.trans (hb.mono B1.size)
    have B2 : Below w.heap.size w (put3 w1 w.heap.size (K) (N) (S)) := below_put3 hB (by omega) _ _ _
    have m2 := m1.put (K) (N) (S)
    go_wp2
    change bodyPost Tryz.prog _ _ _ _ (put3 w1 (w.heap.size) _ _ _)
    generalize put3 w1 (w.heap.size) (K) (N) (S) = X at B2 m2 ⊢
    obtain ⟨⟨⟨p0, -⟩, ⟨p1, -⟩⟩, p2, -⟩ := m2
    exact bodyPost_ret (v := .tuple #[.agg #[.int .i64 (K), .int .i64 (N), .string (S)], .int .i64 (T)]) (by simp [results, Tryz.results133, go_sem, p0, p1, p2]) rfl ⟨rfl, B2⟩
  by_cases h9 : op = 9
  · subst h9
    rw [show namesS 9 a b = cmpS 9 (cmpI a b) from rfl]
    generalize cmpS 9 (cmpI a b) = r at c ⊢
    obtain ⟨K, N, S, T⟩ := r
    go_enter Tryz.func133, Tryz.ntmps133
    go_wp2_with fail
    refine (c _).mono ?_
    rintro e w1 ⟨rfl, hb⟩
    have m1 := (Box3.new w 0 0 e0 52).below hb (by simp)
    obtain ⟨⟨⟨q0, f0⟩, ⟨q1, f1⟩⟩, q2, f2⟩ := id m1
    have hB : Below w.heap.size w w1 := B1.trans (hb.mono B1.size)
    have B2 : Below w.heap.size w (put3 w1 w.heap.size (K) (N) (S)) := below_put3 hB (by omega) _ _ _
    have m2 := m1.put (K) (N) (S)
    go_wp2
    change bodyPost Tryz.prog _ _ _ _ (put3 w1 (w.heap.size) _ _ _)
    generalize put3 w1 (w.heap.size) (K) (N) (S) = X at B2 m2 ⊢
    obtain ⟨⟨⟨p0, -⟩, ⟨p1, -⟩⟩, p2, -⟩ := m2
    exact bodyPost_ret (v := .tuple #[.agg #[.int .i64 (K), .int .i64 (N), .string (S)], .int .i64 (T)]) (by simp [results, Tryz.results133, go_sem, p0, p1, p2]) rfl ⟨rfl, B2⟩
  clear c
  rw [show namesS op a b = stuckS by unfold namesS; rw [if_neg (by simp [h8, h9])]]
  have e8 : (op == 8) = false := by simp [h8]
  have e9 : (op == 9) = false := by simp [h9]
  go_enter Tryz.func133, Tryz.ntmps133
  go_wp2
  exact bodyPost_ret (v := .tuple #[.agg #[.int .i64 0, .int .i64 0, .string e0], .int .i64 7]) (by simp [results, Tryz.results133, go_sem]) rfl ⟨rfl, B1⟩
end Go.Proofs.YtahdkffijlfmnaaGreatDoor.Hp

namespace Go.Proofs.YtahdkffijlfmnaaGreatDoor.Hp
open Go.RowKit
structure Inv (w W : World) (k n : Int) (s : ByteArray) (k' n' : Int) (s' : ByteArray) : Prop where
  a : Box3 W w.heap.size k n s
  b : Box3 W (w.heap.size + 1) k' n' s'
  r : Box3 W (w.heap.size + 1 + 1) 0 0 e0
  below : Below w.heap.size w W
  size : w.heap.size + 1 + 1 < W.heap.size
theorem Inv.next {w W W' : World} {k n : Int} {s : ByteArray} {k' n' : Int} {s' : ByteArray} (h : Inv w W k n s k' n' s') (hb : Below W.heap.size W W') : Inv w W' k n s k' n' s' :=
  ⟨h.a.below hb (by have := h.size; omega), h.b.below hb (by have := h.size; omega), h.r.below hb h.size, h.below.trans (hb.mono h.below.size), Nat.lt_of_lt_of_le h.size hb.size⟩
theorem Inv.new (w : World) (k n : Int) (s : ByteArray) (k' n' : Int) (s' : ByteArray) :
    Inv w (((w.alloc (.cells #[.int .i64 k, .int .i64 n, .string s] 52)).alloc (.cells #[.int .i64 k', .int .i64 n', .string s'] 52)).alloc (.cells #[.int .i64 0, .int .i64 0, .string e0] 52)) k n s k' n' s' := by
  have b0 := (Box3.new w k n s 52)
  have b1 := (Box3.new (w.alloc (.cells #[.int .i64 k, .int .i64 n, .string s] 52)) k' n' s' 52)
  have b2 := (Box3.new ((w.alloc (.cells #[.int .i64 k, .int .i64 n, .string s] 52)).alloc (.cells #[.int .i64 k', .int .i64 n', .string s'] 52)) 0 0 e0 52)
  simp only [World.size_alloc] at b1 b2
  exact ⟨(b0.alloc _).alloc _, b1.alloc _, b2, (((Below.refl _ w).alloc (Nat.le_refl _) _).alloc (by simp) _).alloc (by simp; omega) _, by simp⟩
set_option maxRecDepth 100000 in
set_option maxHeartbeats 1000000 in
theorem binary_any (op k n : Int) (s : ByteArray) (k' n' : Int) (s' : ByteArray) (w : World) (hs : s.size ≤ 9223372036854775807) (hs' : s'.size ≤ 9223372036854775807) :
    Calls Tryz.prog 112 #[.int .i64 op, .agg #[.int .i64 k, .int .i64 n, .string s], .agg #[.int .i64 k', .int .i64 n', .string s']] w fun e w' => e = .returned (.tuple #[.agg #[.int .i64 (binS op k n s k' n' s').1, .int .i64 (binS op k n s k' n' s').2.1, .string (binS op k n s k' n' s').2.2.1], .int .i64 (binS op k n s k' n' s').2.2.2]) ∧ Below w.heap.size w w' := by
  have i0 := Inv.new w k n s k' n' s'
  have cv := fun W : World => valid_any k n s W hs
  have ci := fun W : World => is_any k' n' s' k W hs'
  cases hv : okV k n s with
  | false =>
    rw [show binS op k n s k' n' s' = stuckS by unfold binS; rw [if_neg (by simp [hv])]]
    rw [hv] at cv
    go_enter Tryz.func112, Tryz.ntmps112
    go_wp2_with fail
    refine (cv _).mono ?_
    rintro e w1 ⟨rfl, hb⟩
    have i1 := i0.next hb
    obtain ⟨⟨⟨a0, g0⟩, ⟨a1, g1⟩⟩, a2, g2⟩ := id i1.a
    obtain ⟨⟨⟨c0, k0⟩, ⟨c1, k1⟩⟩, c2, k2⟩ := id i1.b
    obtain ⟨⟨⟨q0, f0⟩, ⟨q1, f1⟩⟩, q2, f2⟩ := id i1.r
    have B2 : Below w.heap.size w (put3 w1 (w.heap.size + 1 + 1) (0) (0) (e0)) := below_put3 i1.below (by omega) _ _ _
    have m2 := i1.r.put (0) (0) (e0)
    go_wp2
    change bodyPost Tryz.prog _ _ _ _ (put3 w1 (w.heap.size + 1 + 1) _ _ _)
    generalize put3 w1 (w.heap.size + 1 + 1) (0) (0) (e0) = X at B2 m2 ⊢
    obtain ⟨⟨⟨p0, -⟩, ⟨p1, -⟩⟩, p2, -⟩ := m2
    exact bodyPost_ret (v := .tuple #[.agg #[.int .i64 (0), .int .i64 (0), .string (e0)], .int .i64 (7)]) (by simp [results, Tryz.results112, go_sem, p0, p1, p2]) rfl ⟨rfl, B2⟩
  | true =>
  cases hi : isS k' n' s' k with
  | false =>
    rw [show binS op k n s k' n' s' = stuckS by unfold binS; rw [if_neg (by unfold isS at hi; simp at hi; intro h; rw [hi h.2.1] at h; exact absurd h.2.2 (by simp))]]
    rw [hv] at cv
    rw [hi] at ci
    go_enter Tryz.func112, Tryz.ntmps112
    go_wp2_with fail
    refine (cv _).mono ?_
    rintro e w1 ⟨rfl, hb⟩
    have i1 := i0.next hb
    obtain ⟨⟨⟨a0, g0⟩, ⟨a1, g1⟩⟩, a2, g2⟩ := id i1.a
    obtain ⟨⟨⟨c0, k0⟩, ⟨c1, k1⟩⟩, c2, k2⟩ := id i1.b
    obtain ⟨⟨⟨q0, f0⟩, ⟨q1, f1⟩⟩, q2, f2⟩ := id i1.r
    go_wp2_with fail
    refine (ci _).mono ?_
    rintro e w2 ⟨rfl, hb2⟩
    have i2 := i1.next hb2
    clear a0 a1 a2 g0 g1 g2 c0 c1 c2 k0 k1 k2 q0 q1 q2 f0 f1 f2
    obtain ⟨⟨⟨a0, g0⟩, ⟨a1, g1⟩⟩, a2, g2⟩ := id i2.a
    obtain ⟨⟨⟨c0, k0⟩, ⟨c1, k1⟩⟩, c2, k2⟩ := id i2.b
    obtain ⟨⟨⟨q0, f0⟩, ⟨q1, f1⟩⟩, q2, f2⟩ := id i2.r
    have B2 : Below w.heap.size w (put3 w2 (w.heap.size + 1 + 1) (0) (0) (e0)) := below_put3 i2.below (by omega) _ _ _
    have m2 := i2.r.put (0) (0) (e0)
    go_wp2
    change bodyPost Tryz.prog _ _ _ _ (put3 w2 (w.heap.size + 1 + 1) _ _ _)
    generalize put3 w2 (w.heap.size + 1 + 1) (0) (0) (e0) = X at B2 m2 ⊢
    obtain ⟨⟨⟨p0, -⟩, ⟨p1, -⟩⟩, p2, -⟩ := m2
    exact bodyPost_ret (v := .tuple #[.agg #[.int .i64 (0), .int .i64 (0), .string (e0)], .int .i64 (7)]) (by simp [results, Tryz.results112, go_sem, p0, p1, p2]) rfl ⟨rfl, B2⟩
  | true =>
  have hk : k' = k ∧ okV k' n' s' = true := by unfold isS at hi; simpa using hi
  rw [show binS op k n s k' n' s' = (if k = 1 then intsS op n n' else if k = 3 then textsS op s s' else if k = 2 ∨ k = 4 then namesS op n n' else stuckS) by unfold binS; rw [if_pos ⟨hv, hk.1, hk.2⟩]]
  rw [hv] at cv
  rw [hi] at ci
  clear hi
  obtain ⟨rfl, hv'⟩ := hk
  by_cases h1 : k' = 1
  · subst h1
    rw [if_pos rfl]
    have c : ∀ W : World, Calls Tryz.prog 131 #[.int .i64 op, .int .i64 n, .int .i64 n'] W fun e w' => e = .returned (.tuple #[.agg #[.int .i64 (intsS op n n').1, .int .i64 (intsS op n n').2.1, .string (intsS op n n').2.2.1], .int .i64 (intsS op n n').2.2.2]) ∧ Below W.heap.size W w' := ofInts_any op n n'
    generalize intsS op n n' = r at c ⊢
    obtain ⟨K, N, S, T⟩ := r
    go_enter Tryz.func112, Tryz.ntmps112
    go_wp2_with fail
    refine (cv _).mono ?_
    rintro e w1 ⟨rfl, hb⟩
    have i1 := i0.next hb
    obtain ⟨⟨⟨a0, g0⟩, ⟨a1, g1⟩⟩, a2, g2⟩ := id i1.a
    obtain ⟨⟨⟨c0, k0⟩, ⟨c1, k1⟩⟩, c2, k2⟩ := id i1.b
    obtain ⟨⟨⟨q0, f0⟩, ⟨q1, f1⟩⟩, q2, f2⟩ := id i1.r
    go_wp2_with fail
    refine (ci _).mono ?_
    rintro e w2 ⟨rfl, hb2⟩
    have i2 := i1.next hb2
    clear a0 a1 a2 g0 g1 g2 c0 c1 c2 k0 k1 k2 q0 q1 q2 f0 f1 f2
    obtain ⟨⟨⟨a0, g0⟩, ⟨a1, g1⟩⟩, a2, g2⟩ := id i2.a
    obtain ⟨⟨⟨c0, k0⟩, ⟨c1, k1⟩⟩, c2, k2⟩ := id i2.b
    obtain ⟨⟨⟨q0, f0⟩, ⟨q1, f1⟩⟩, q2, f2⟩ := id i2.r
    go_wp2_with fail
    refine (c _).mono ?_
    rintro e w3 ⟨rfl, hb3⟩
    have i3 := i2.next hb3
    clear a0 a1 a2 g0 g1 g2 c0 c1 c2 k0 k1 k2 q0 q1 q2 f0 f1 f2
    obtain ⟨⟨⟨a0, g0⟩, ⟨a1, g1⟩⟩, a2, g2⟩ := id i3.a
    obtain ⟨⟨⟨c0, k0⟩, ⟨c1, k1⟩⟩, c2, k2⟩ := id i3.b
    obtain ⟨⟨⟨q0, f0⟩, ⟨q1, f1⟩⟩, q2, f2⟩ := id i3.r
    have B2 : Below w.heap.size w (put3 w3 (w.heap.size + 1 + 1) (K) (N) (S)) := below_put3 i3.below (by omega) _ _ _
    have m2 := i3.r.put (K) (N) (S)
    go_wp2
    change bodyPost Tryz.prog _ _ _ _ (put3 w3 (w.heap.size + 1 + 1) _ _ _)
    generalize put3 w3 (w.heap.size + 1 + 1) (K) (N) (S) = X at B2 m2 ⊢
    obtain ⟨⟨⟨p0, -⟩, ⟨p1, -⟩⟩, p2, -⟩ := m2
    exact bodyPost_ret (v := .tuple #[.agg #[.int .i64 (K), .int .i64 (N), .string (S)], .int .i64 (T)]) (by simp [results, Tryz.results112, go_sem, p0, p1, p2]) rfl ⟨rfl, B2⟩
  rw [if_neg h1]
  by_cases h3 : k' = 3
  · subst h3
    rw [if_pos rfl]
    have z1 : s.size ≤ 256 := by rw [show okV 3 n s = (n == 0 && decide (s.size ≤ 256)) from rfl] at hv; simp at hv; exact hv.2
    have z2 : s'.size ≤ 256 := by rw [show okV 3 n' s' = (n' == 0 && decide (s'.size ≤ 256)) from rfl] at hv'; simp at hv'; exact hv'.2
    have c : ∀ W : World, Calls Tryz.prog 132 #[.int .i64 op, .string s, .string s'] W fun e w' => e = .returned (.tuple #[.agg #[.int .i64 (textsS op s s').1, .int .i64 (textsS op s s').2.1, .string (textsS op s s').2.2.1], .int .i64 (textsS op s s').2.2.2]) ∧ Below W.heap.size W w' := fun W => ofTexts_any op s s' W z1 z2
    generalize textsS op s s' = r at c ⊢
    obtain ⟨K, N, S, T⟩ := r
    go_enter Tryz.func112, Tryz.ntmps112
    go_wp2_with fail
    refine (cv _).mono ?_
    rintro e w1 ⟨rfl, hb⟩
    have i1 := i0.next hb
    obtain ⟨⟨⟨a0, g0⟩, ⟨a1, g1⟩⟩, a2, g2⟩ := id i1.a
    obtain ⟨⟨⟨c0, k0⟩, ⟨c1, k1⟩⟩, c2, k2⟩ := id i1.b
    obtain ⟨⟨⟨q0, f0⟩, ⟨q1, f1⟩⟩, q2, f2⟩ := id i1.r
    go_wp2_with fail
    refine (ci _).mono ?_
    rintro e w2 ⟨rfl, hb2⟩
    have i2 := i1.next hb2
    clear a0 a1 a2 g0 g1 g2 c0 c1 c2 k0 k1 k2 q0 q1 q2 f0 f1 f2
    obtain ⟨⟨⟨a0, g0⟩, ⟨a1, g1⟩⟩, a2, g2⟩ := id i2.a
    obtain ⟨⟨⟨c0, k0⟩, ⟨c1, k1⟩⟩, c2, k2⟩ := id i2.b
    obtain ⟨⟨⟨q0, f0⟩, ⟨q1, f1⟩⟩, q2, f2⟩ := id i2.r
    go_wp2_with fail
    refine (c _).mono ?_
    rintro e w3 ⟨rfl, hb3⟩
    have i3 := i2.next hb3
    clear a0 a1 a2 g0 g1 g2 c0 c1 c2 k0 k1 k2 q0 q1 q2 f0 f1 f2
    obtain ⟨⟨⟨a0, g0⟩, ⟨a1, g1⟩⟩, a2, g2⟩ := id i3.a
    obtain ⟨⟨⟨c0, k0⟩, ⟨c1, k1⟩⟩, c2, k2⟩ := id i3.b
    obtain ⟨⟨⟨q0, f0⟩, ⟨q1, f1⟩⟩, q2, f2⟩ := id i3.r
    have B2 : Below w.heap.size w (put3 w3 (w.heap.size + 1 + 1) (K) (N) (S)) := below_put3 i3.below (by omega) _ _ _
    have m2 := i3.r.put (K) (N) (S)
    go_wp2
    change bodyPost Tryz.prog _ _ _ _ (put3 w3 (w.heap.size + 1 + 1) _ _ _)
    generalize put3 w3 (w.heap.size + 1 + 1) (K) (N) (S) = X at B2 m2 ⊢
    obtain ⟨⟨⟨p0, -⟩, ⟨p1, -⟩⟩, p2, -⟩ := m2
    exact bodyPost_ret (v := .tuple #[.agg #[.int .i64 (K), .int .i64 (N), .string (S)], .int .i64 (T)]) (by simp [results, Tryz.results112, go_sem, p0, p1, p2]) rfl ⟨rfl, B2⟩
  rw [if_neg h3]
  by_cases h2 : k' = 2
  · subst h2
    rw [if_pos (by simp)]
    have c : ∀ W : World, Calls Tryz.prog 133 #[.int .i64 op, .int .i64 n, .int .i64 n'] W fun e w' => e = .returned (.tuple #[.agg #[.int .i64 (namesS op n n').1, .int .i64 (namesS op n n').2.1, .string (namesS op n n').2.2.1], .int .i64 (namesS op n n').2.2.2]) ∧ Below W.heap.size W w' := ofNames_any op n n'
    generalize namesS op n n' = r at c ⊢
    obtain ⟨K, N, S, T⟩ := r
    go_enter Tryz.func112, Tryz.ntmps112
    go_wp2_with fail
    refine (cv _).mono ?_
    rintro e w1 ⟨rfl, hb⟩
    have i1 := i0.next hb
    obtain ⟨⟨⟨a0, g0⟩, ⟨a1, g1⟩⟩, a2, g2⟩ := id i1.a
    obtain ⟨⟨⟨c0, k0⟩, ⟨c1, k1⟩⟩, c2, k2⟩ := id i1.b
    obtain ⟨⟨⟨q0, f0⟩, ⟨q1, f1⟩⟩, q2, f2⟩ := id i1.r
    go_wp2_with fail
    refine (ci _).mono ?_
    rintro e w2 ⟨rfl, hb2⟩
    have i2 := i1.next hb2
    clear a0 a1 a2 g0 g1 g2 c0 c1 c2 k0 k1 k2 q0 q1 q2 f0 f1 f2
    obtain ⟨⟨⟨a0, g0⟩, ⟨a1, g1⟩⟩, a2, g2⟩ := id i2.a
    obtain ⟨⟨⟨c0, k0⟩, ⟨c1, k1⟩⟩, c2, k2⟩ := id i2.b
    obtain ⟨⟨⟨q0, f0⟩, ⟨q1, f1⟩⟩, q2, f2⟩ := id i2.r
    go_wp2_with fail
    refine (c _).mono ?_
    rintro e w3 ⟨rfl, hb3⟩
    have i3 := i2.next hb3
    clear a0 a1 a2 g0 g1 g2 c0 c1 c2 k0 k1 k2 q0 q1 q2 f0 f1 f2
    obtain ⟨⟨⟨a0, g0⟩, ⟨a1, g1⟩⟩, a2, g2⟩ := id i3.a
    obtain ⟨⟨⟨c0, k0⟩, ⟨c1, k1⟩⟩, c2, k2⟩ := id i3.b
    obtain ⟨⟨⟨q0, f0⟩, ⟨q1, f1⟩⟩, q2, f2⟩ := id i3.r
    have B2 : Below w.heap.size w (put3 w3 (w.heap.size + 1 + 1) (K) (N) (S)) := below_put3 i3.below (by omega) _ _ _
    have m2 := i3.r.put (K) (N) (S)
    go_wp2
    change bodyPost Tryz.prog _ _ _ _ (put3 w3 (w.heap.size + 1 + 1) _ _ _)
    generalize put3 w3 (w.heap.size + 1 + 1) (K) (N) (S) = X at B2 m2 ⊢
    obtain ⟨⟨⟨p0, -⟩, ⟨p1, -⟩⟩, p2, -⟩ := m2
    exact bodyPost_ret (v := .tuple #[.agg #[.int .i64 (K), .int .i64 (N), .string (S)], .int .i64 (T)]) (by simp [results, Tryz.results112, go_sem, p0, p1, p2]) rfl ⟨rfl, B2⟩
  by_cases h4 : k' = 4
  · subst h4
    rw [if_pos (by simp)]
    have c : ∀ W : World, Calls Tryz.prog 133 #[.int .i64 op, .int .i64 n, .int .i64 n'] W fun e w' => e = .returned (.tuple #[.agg #[.int .i64 (namesS op n n').1, .int .i64 (namesS op n n').2.1, .string (namesS op n n').2.2.1], .int .i64 (namesS op n n').2.2.2]) ∧ Below W.heap.size W w' := ofNames_any op n n'
    generalize namesS op n n' = r at c ⊢
    obtain ⟨K, N, S, T⟩ := r
    go_enter Tryz.func112, Tryz.ntmps112
    go_wp2_with fail
    refine (cv _).mono ?_
    rintro e w1 ⟨rfl, hb⟩
    have i1 := i0.next hb
    obtain ⟨⟨⟨a0, g0⟩, ⟨a1, g1⟩⟩, a2, g2⟩ := id i1.a
    obtain ⟨⟨⟨c0, k0⟩, ⟨c1, k1⟩⟩, c2, k2⟩ := id i1.b
    obtain ⟨⟨⟨q0, f0⟩, ⟨q1, f1⟩⟩, q2, f2⟩ := id i1.r
    go_wp2_with fail
    refine (ci _).mono ?_
    rintro e w2 ⟨rfl, hb2⟩
    have i2 := i1.next hb2
    clear a0 a1 a2 g0 g1 g2 c0 c1 c2 k0 k1 k2 q0 q1 q2 f0 f1 f2
    obtain ⟨⟨⟨a0, g0⟩, ⟨a1, g1⟩⟩, a2, g2⟩ := id i2.a
    obtain ⟨⟨⟨c0, k0⟩, ⟨c1, k1⟩⟩, c2, k2⟩ := id i2.b
    obtain ⟨⟨⟨q0, f0⟩, ⟨q1, f1⟩⟩, q2, f2⟩ := id i2.r
    go_wp2_with fail
    refine (c _).mono ?_
    rintro e w3 ⟨rfl, hb3⟩
    have i3 := i2.next hb3
    clear a0 a1 a2 g0 g1 g2 c0 c1 c2 k0 k1 k2 q0 q1 q2 f0 f1 f2
    obtain ⟨⟨⟨a0, g0⟩, ⟨a1, g1⟩⟩, a2, g2⟩ := id i3.a
    obtain ⟨⟨⟨c0, k0⟩, ⟨c1, k1⟩⟩, c2, k2⟩ := id i3.b
    obtain ⟨⟨⟨q0, f0⟩, ⟨q1, f1⟩⟩, q2, f2⟩ := id i3.r
    have B2 : Below w.heap.size w (put3 w3 (w.heap.size + 1 + 1) (K) (N) (S)) := below_put3 i3.below (by omega) _ _ _
    have m2 := i3.r.put (K) (N) (S)
    go_wp2
    change bodyPost Tryz.prog _ _ _ _ (put3 w3 (w.heap.size + 1 + 1) _ _ _)
    generalize put3 w3 (w.heap.size + 1 + 1) (K) (N) (S) = X at B2 m2 ⊢
    obtain ⟨⟨⟨p0, -⟩, ⟨p1, -⟩⟩, p2, -⟩ := m2
    exact bodyPost_ret (v := .tuple #[.agg #[.int .i64 (K), .int .i64 (N), .string (S)], .int .i64 (T)]) (by simp [results, Tryz.results112, go_sem, p0, p1, p2]) rfl ⟨rfl, B2⟩
  rw [if_neg (by simp [h2, h4])]
  go_enter Tryz.func112, Tryz.ntmps112
  go_wp2_with fail
  refine (cv _).mono ?_
  rintro e w1 ⟨rfl, hb⟩
  have i1 := i0.next hb
  obtain ⟨⟨⟨a0, g0⟩, ⟨a1, g1⟩⟩, a2, g2⟩ := id i1.a
  obtain ⟨⟨⟨c0, k0⟩, ⟨c1, k1⟩⟩, c2, k2⟩ := id i1.b
  obtain ⟨⟨⟨q0, f0⟩, ⟨q1, f1⟩⟩, q2, f2⟩ := id i1.r
  go_wp2_with fail
  refine (ci _).mono ?_
  rintro e w2 ⟨rfl, hb2⟩
  have i2 := i1.next hb2
  clear a0 a1 a2 g0 g1 g2 c0 c1 c2 k0 k1 k2 q0 q1 q2 f0 f1 f2
  obtain ⟨⟨⟨a0, g0⟩, ⟨a1, g1⟩⟩, a2, g2⟩ := id i2.a
  obtain ⟨⟨⟨c0, k0⟩, ⟨c1, k1⟩⟩, c2, k2⟩ := id i2.b
  obtain ⟨⟨⟨q0, f0⟩, ⟨q1, f1⟩⟩, q2, f2⟩ := id i2.r
  have B2 : Below w.heap.size w (put3 w2 (w.heap.size + 1 + 1) (0) (0) (e0)) := below_put3 i2.below (by omega) _ _ _
  have m2 := i2.r.put (0) (0) (e0)
  go_wp2
  change bodyPost Tryz.prog _ _ _ _ (put3 w2 (w.heap.size + 1 + 1) _ _ _)
  generalize put3 w2 (w.heap.size + 1 + 1) (0) (0) (e0) = X at B2 m2 ⊢
  obtain ⟨⟨⟨p0, -⟩, ⟨p1, -⟩⟩, p2, -⟩ := m2
  exact bodyPost_ret (v := .tuple #[.agg #[.int .i64 (0), .int .i64 (0), .string (e0)], .int .i64 (7)]) (by simp [results, Tryz.results112, go_sem, p0, p1, p2]) rfl ⟨rfl, B2⟩
end Go.Proofs.YtahdkffijlfmnaaGreatDoor.Hp

namespace Go.Proofs.YtahdkffijlfmnaaGreatDoor.Hp
open Go.RowKit
structure Inv2 (w W : World) (k n : Int) (s : ByteArray) : Prop where
  a : Box3 W w.heap.size k n s
  r : Box3 W (w.heap.size + 1) 0 0 e0
  below : Below w.heap.size w W
  size : w.heap.size + 1 < W.heap.size
theorem Inv2.next {w W W' : World} {k n : Int} {s : ByteArray} (h : Inv2 w W k n s) (hb : Below W.heap.size W W') : Inv2 w W' k n s :=
  ⟨h.a.below hb (by have := h.size; omega), h.r.below hb h.size, h.below.trans (hb.mono h.below.size), Nat.lt_of_lt_of_le h.size hb.size⟩
theorem Inv2.new (w : World) (k n : Int) (s : ByteArray) :
    Inv2 w ((w.alloc (.cells #[.int .i64 k, .int .i64 n, .string s] 52)).alloc (.cells #[.int .i64 0, .int .i64 0, .string e0] 52)) k n s := by
  have b0 := (Box3.new w k n s 52)
  have b2 := (Box3.new (w.alloc (.cells #[.int .i64 k, .int .i64 n, .string s] 52)) 0 0 e0 52)
  simp only [World.size_alloc] at b2
  exact ⟨b0.alloc _, b2, ((Below.refl _ w).alloc (Nat.le_refl _) _).alloc (by simp) _, by simp⟩
set_option maxRecDepth 100000 in
set_option maxHeartbeats 1000000 in
theorem unary_any (op k n : Int) (s : ByteArray) (w : World) (hs : s.size ≤ 9223372036854775807) :
    Calls Tryz.prog 111 #[.int .i64 op, .agg #[.int .i64 k, .int .i64 n, .string s]] w fun e w' => e = .returned (.tuple #[.agg #[.int .i64 (unS op k n s).1, .int .i64 (unS op k n s).2.1, .string (unS op k n s).2.2.1], .int .i64 (unS op k n s).2.2.2]) ∧ Below w.heap.size w w' := by
  have i0 := Inv2.new w k n s
  by_cases h1 : op = 1
  · subst h1
    have ci := fun W : World => is_any k n s 1 W hs
    cases hi : isS k n s 1 with
    | false =>
      rw [hi] at ci
      rw [show unS 1 k n s = stuckS by unfold isS at hi; simp at hi; unfold unS; rw [if_neg (by intro h; rw [hi h.2.1] at h; exact absurd h.2.2 (by simp)), if_neg (by simp)]]
      go_enter Tryz.func111, Tryz.ntmps111
      go_wp2_with fail
      refine (ci _).mono ?_
      rintro e w1 ⟨rfl, hb⟩
      have i1 := i0.next hb
      obtain ⟨⟨⟨a0, g0⟩, ⟨a1, g1⟩⟩, a2, g2⟩ := id i1.a
      obtain ⟨⟨⟨q0, f0⟩, ⟨q1, f1⟩⟩, q2, f2⟩ := id i1.r
      have B2 : Below w.heap.size w (put3 w1 (w.heap.size + 1) (0) (0) (e0)) := below_put3 i1.below (by omega) _ _ _
      have m2 := i1.r.put (0) (0) (e0)
      go_wp2
      change bodyPost Tryz.prog _ _ _ _ (put3 w1 (w.heap.size + 1) _ _ _)
      generalize put3 w1 (w.heap.size + 1) (0) (0) (e0) = X at B2 m2 ⊢
      obtain ⟨⟨⟨p0, -⟩, ⟨p1, -⟩⟩, p2, -⟩ := m2
      exact bodyPost_ret (v := .tuple #[.agg #[.int .i64 (0), .int .i64 (0), .string (e0)], .int .i64 (7)]) (by simp [results, Tryz.results111, go_sem, p0, p1, p2]) rfl ⟨rfl, B2⟩
    | true =>
      rw [hi] at ci
      rw [show unS 1 k n s = (1, wrap64 (-n), e0, 0) by unfold isS at hi; simp at hi; unfold unS; rw [if_pos ⟨rfl, hi.1, hi.2⟩]; rfl]
      go_enter Tryz.func111, Tryz.ntmps111
      go_wp2_with fail
      refine (ci _).mono ?_
      rintro e w1 ⟨rfl, hb⟩
      have i1 := i0.next hb
      obtain ⟨⟨⟨a0, g0⟩, ⟨a1, g1⟩⟩, a2, g2⟩ := id i1.a
      obtain ⟨⟨⟨q0, f0⟩, ⟨q1, f1⟩⟩, q2, f2⟩ := id i1.r
      go_wp2_with fail
      refine (number_any (wrap64 (-n)) _).mono ?_
      rintro e w2 ⟨rfl, hb2⟩
      have i2 := i1.next hb2
      clear a0 a1 a2 g0 g1 g2 q0 q1 q2 f0 f1 f2
      obtain ⟨⟨⟨a0, g0⟩, ⟨a1, g1⟩⟩, a2, g2⟩ := id i2.a
      obtain ⟨⟨⟨q0, f0⟩, ⟨q1, f1⟩⟩, q2, f2⟩ := id i2.r
      have B2 : Below w.heap.size w (put3 w2 (w.heap.size + 1) (1) (wrap64 (-n)) (e0)) := below_put3 i2.below (by omega) _ _ _
      have m2 := i2.r.put (1) (wrap64 (-n)) (e0)
      go_wp2
      change bodyPost Tryz.prog _ _ _ _ (put3 w2 (w.heap.size + 1) _ _ _)
      generalize put3 w2 (w.heap.size + 1) (1) (wrap64 (-n)) (e0) = X at B2 m2 ⊢
      obtain ⟨⟨⟨p0, -⟩, ⟨p1, -⟩⟩, p2, -⟩ := m2
      exact bodyPost_ret (v := .tuple #[.agg #[.int .i64 (1), .int .i64 (wrap64 (-n)), .string (e0)], .int .i64 (0)]) (by simp [results, Tryz.results111, go_sem, p0, p1, p2]) rfl ⟨rfl, B2⟩
  by_cases h2 : op = 2
  · subst h2
    have ci := fun W : World => is_any k n s 2 W hs
    cases hi : isS k n s 2 with
    | false =>
      rw [hi] at ci
      rw [show unS 2 k n s = stuckS by unfold isS at hi; simp at hi; unfold unS; rw [if_neg (by simp), if_neg (by intro h; rw [hi h.2.1] at h; exact absurd h.2.2 (by simp))]]
      go_enter Tryz.func111, Tryz.ntmps111
      go_wp2_with fail
      refine (ci _).mono ?_
      rintro e w1 ⟨rfl, hb⟩
      have i1 := i0.next hb
      obtain ⟨⟨⟨a0, g0⟩, ⟨a1, g1⟩⟩, a2, g2⟩ := id i1.a
      obtain ⟨⟨⟨q0, f0⟩, ⟨q1, f1⟩⟩, q2, f2⟩ := id i1.r
      have B2 : Below w.heap.size w (put3 w1 (w.heap.size + 1) (0) (0) (e0)) := below_put3 i1.below (by omega) _ _ _
      have m2 := i1.r.put (0) (0) (e0)
      go_wp2
      change bodyPost Tryz.prog _ _ _ _ (put3 w1 (w.heap.size + 1) _ _ _)
      generalize put3 w1 (w.heap.size + 1) (0) (0) (e0) = X at B2 m2 ⊢
      obtain ⟨⟨⟨p0, -⟩, ⟨p1, -⟩⟩, p2, -⟩ := m2
      exact bodyPost_ret (v := .tuple #[.agg #[.int .i64 (0), .int .i64 (0), .string (e0)], .int .i64 (7)]) (by simp [results, Tryz.results111, go_sem, p0, p1, p2]) rfl ⟨rfl, B2⟩
    | true =>
      rw [hi] at ci
      rw [show unS 2 k n s = (2, bit (n == 0), e0, 0) by unfold isS at hi; simp at hi; unfold unS; rw [if_neg (by simp)]; rw [if_pos ⟨rfl, hi.1, hi.2⟩]; rfl]
      go_enter Tryz.func111, Tryz.ntmps111
      go_wp2_with fail
      refine (ci _).mono ?_
      rintro e w1 ⟨rfl, hb⟩
      have i1 := i0.next hb
      obtain ⟨⟨⟨a0, g0⟩, ⟨a1, g1⟩⟩, a2, g2⟩ := id i1.a
      obtain ⟨⟨⟨q0, f0⟩, ⟨q1, f1⟩⟩, q2, f2⟩ := id i1.r
      go_wp2_with fail
      refine (truth_any (n == 0) _).mono ?_
      rintro e w2 ⟨rfl, hb2⟩
      have i2 := i1.next hb2
      clear a0 a1 a2 g0 g1 g2 q0 q1 q2 f0 f1 f2
      obtain ⟨⟨⟨a0, g0⟩, ⟨a1, g1⟩⟩, a2, g2⟩ := id i2.a
      obtain ⟨⟨⟨q0, f0⟩, ⟨q1, f1⟩⟩, q2, f2⟩ := id i2.r
      have B2 : Below w.heap.size w (put3 w2 (w.heap.size + 1) (2) (bit (n == 0)) (e0)) := below_put3 i2.below (by omega) _ _ _
      have m2 := i2.r.put (2) (bit (n == 0)) (e0)
      go_wp2
      change bodyPost Tryz.prog _ _ _ _ (put3 w2 (w.heap.size + 1) _ _ _)
      generalize put3 w2 (w.heap.size + 1) (2) (bit (n == 0)) (e0) = X at B2 m2 ⊢
      obtain ⟨⟨⟨p0, -⟩, ⟨p1, -⟩⟩, p2, -⟩ := m2
      exact bodyPost_ret (v := .tuple #[.agg #[.int .i64 (2), .int .i64 (bit (n == 0)), .string (e0)], .int .i64 (0)]) (by simp [results, Tryz.results111, go_sem, p0, p1, p2]) rfl ⟨rfl, B2⟩
  rw [show unS op k n s = stuckS by unfold unS; rw [if_neg (by simp [h1]), if_neg (by simp [h2])]]
  go_enter Tryz.func111, Tryz.ntmps111
  go_wp2
  refine bodyPost_ret (v := .tuple #[.agg #[.int .i64 0, .int .i64 0, .string e0], .int .i64 7]) (by simp [results, Tryz.results111, go_sem]) rfl ⟨rfl, ?_⟩
  exact i0.below
set_option maxRecDepth 100000 in
set_option maxHeartbeats 1000000 in
theorem zero_any (k : Int) (w : World) : Calls Tryz.prog 50 #[.int .i64 k] w fun e w' => e = .returned (.agg #[.int .i64 (if 0 ≤ k ∧ k ≤ 4 then k else 0), .int .i64 0, .string e0]) ∧ Below w.heap.size w w' := by
  have n0 := Box3.new w 0 0 e0 52
  have n1 := Box3.new (w.alloc (.cells #[.int .i64 0, .int .i64 0, .string e0] 52)) k 0 e0 52
  have B1 : Below w.heap.size w ((w.alloc (.cells #[.int .i64 0, .int .i64 0, .string e0] 52)).alloc (.cells #[.int .i64 k, .int .i64 0, .string e0] 52)) := ((Below.refl _ w).alloc (Nat.le_refl _) _).alloc (by simp) _
  have cv := fun W : World => valid_any k 0 e0 W (by decide)
  have hv : okV k 0 e0 = decide (0 ≤ k ∧ k ≤ 4) := by
    unfold okV
    rw [e0_list]
    by_cases h0 : k = 0
    · subst h0; rfl
    by_cases h1 : k = 1
    · subst h1; rfl
    by_cases h2 : k = 2
    · subst h2; rfl
    by_cases h3 : k = 3
    · subst h3; rfl
    by_cases h4 : k = 4
    · subst h4; rfl
    rw [if_neg h0, if_neg h1, if_neg h2, if_neg h3, if_neg h4]
    simp
    omega
  rw [hv] at cv
  clear hv
  by_cases h : 0 ≤ k ∧ k ≤ 4
  · rw [if_pos h]
    rw [decide_eq_true h] at cv
    clear h
    go_enter Tryz.func50, Tryz.ntmps50
    go_wp2_with fail
    refine (cv _).mono ?_
    rintro e w1 ⟨rfl, hb⟩
    have m1 := (n0.alloc (.cells #[.int .i64 k, .int .i64 0, .string e0] 52)).below hb (by simp; omega)
    have m3 := n1.below hb (by simp)
    simp only [World.size_alloc] at m3
    obtain ⟨⟨⟨q0, f0⟩, ⟨q1, f1⟩⟩, q2, f2⟩ := id m1
    obtain ⟨⟨⟨a0, g0⟩, ⟨a1, g1⟩⟩, a2, g2⟩ := id m3
    have B2 : Below w.heap.size w (put3 w1 w.heap.size k 0 e0) := below_put3 (B1.trans (hb.mono B1.size)) (Nat.le_refl _) _ _ _
    have m2 := m1.put k 0 e0
    go_wp2
    change bodyPost Tryz.prog _ _ _ _ (put3 w1 w.heap.size _ _ _)
    generalize put3 w1 w.heap.size k 0 e0 = X at B2 m2 ⊢
    obtain ⟨⟨⟨p0, -⟩, ⟨p1, -⟩⟩, p2, -⟩ := m2
    exact bodyPost_ret (v := .agg #[.int .i64 k, .int .i64 0, .string e0]) (by simp [results, Tryz.results50, go_sem, p0, p1, p2]) rfl ⟨rfl, B2⟩
  · rw [if_neg h]
    rw [decide_eq_false h] at cv
    clear h
    go_enter Tryz.func50, Tryz.ntmps50
    go_wp2_with fail
    refine (cv _).mono ?_
    rintro e w1 ⟨rfl, hb⟩
    have m1 := (n0.alloc (.cells #[.int .i64 k, .int .i64 0, .string e0] 52)).below hb (by simp; omega)
    obtain ⟨⟨⟨q0, f0⟩, ⟨q1, f1⟩⟩, q2, f2⟩ := id m1
    have B2 : Below w.heap.size w (put3 w1 w.heap.size 0 0 e0) := below_put3 (B1.trans (hb.mono B1.size)) (Nat.le_refl _) _ _ _
    have m2 := m1.put 0 0 e0
    go_wp2
    change bodyPost Tryz.prog _ _ _ _ (put3 w1 w.heap.size _ _ _)
    generalize put3 w1 w.heap.size 0 0 e0 = X at B2 m2 ⊢
    obtain ⟨⟨⟨p0, -⟩, ⟨p1, -⟩⟩, p2, -⟩ := m2
    exact bodyPost_ret (v := .agg #[.int .i64 0, .int .i64 0, .string e0]) (by simp [results, Tryz.results50, go_sem, p0, p1, p2]) rfl ⟨rfl, B2⟩
end Go.Proofs.YtahdkffijlfmnaaGreatDoor.Hp
