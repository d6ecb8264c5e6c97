import Derived.Test.YtdcioemjmmhbhaaDoorBookE
import Derived.Test.YtdcioemjmmhbhaaDoorMakes
import Derived.Deep.RegionHeld3
namespace Go.Proofs.YtdcioemjmmhbhaaDoor
open Go.RowKit

/-- The elements of the array with a number. -/
def elsAt (A : Hp) (n : Nat) : List V := (((0, []) :: A : Hp).getD n (0, [])).2
theorem find_ref (A : Hp) (n : Nat) (h : n ≤ A.length) : findH A (4, (n : Int), e0) = (((0, []) :: A : Hp).getD n (0, []), 0) := by
  have hm : mayS (4, (n : Int), e0) 4 A.length = true := by
    unfold mayS okV
    simp
    omega
  unfold findH
  rw [if_neg (by rw [hm]; decide)]
  cases n with
  | zero => rfl
  | succ n =>
    rw [if_neg (by simp only; omega)]
    simp only [List.getD_cons_succ]
    rw [show (((n + 1 : Nat) : Int)).toNat - 1 = n by omega]
theorem get_ref (A : Hp) (n i : Nat) (h : n ≤ A.length) (hi : i < (elsAt A n).length) : getH A (4, (n : Int), e0) (i : Int) = ((elsAt A n)[i], 0) := by
  have hp : placeH A (4, (n : Int), e0) (i : Int) = (((0, []) :: A : Hp).getD n (0, []), 0) := by
    unfold placeH
    rw [find_ref A n h, if_neg]
    rintro ⟨_, q | q⟩
    · omega
    · simp only at q
      unfold elsAt at hi
      omega
  unfold getH
  rw [hp, if_pos rfl, Int.toNat_natCast]
  show ((elsAt A n).getD i zv, (0 : Int)) = _
  rw [List.getD_eq_getElem?_getD, List.getElem?_eq_getElem hi]
  rfl
theorem els_len {A : Hp} {lim n : Nat} (h : usedS A ≤ lim) (hl : lim ≤ 100000) : (elsAt A n).length ≤ 100000 := by
  unfold elsAt
  cases n with
  | zero => exact Nat.zero_le _
  | succ n =>
    rw [List.getD_cons_succ, List.getD_eq_getElem?_getD]
    cases hq : A[n]? with
    | none => exact Nat.zero_le _
    | some a =>
      have := used_mem (List.mem_of_getElem? hq)
      show a.2.length ≤ _
      omega
theorem BookAt.list {w : World} {m p : Nat} {A : Hp} {Kd : List Int} {u : Nat} {kv lv : Value} {Ls : List Value} {G : Nat → Prop} (h : BookAt w m p A Kd u kv lv Ls G) :
    ∃ lg lc, lv = .slice (some ⟨lg, 0, none⟩) (A.length + 1) lc ∧ ∀ n, n ≤ A.length → ∃ q c, w.cell? ⟨lg, n, none⟩ = some (.slice q (elsAt A n).length c) ∧ (0 < (elsAt A n).length → ∃ g, q = some ⟨g, 0, none⟩ ∧ w.rangeAt g 0 (vcs (elsAt A n))) := by
  obtain ⟨q, c, rfl, _, hr⟩ := own_slice h.ls
  obtain ⟨lg, rfl, hr1⟩ := hr (by omega)
  refine ⟨lg, c, rfl, fun n hn => ?_⟩
  cases n with
  | zero =>
    refine ⟨none, 0, ?_, fun q => by simp [elsAt] at q⟩
    have := hr1 0 _ rfl
    exact this
  | succ n =>
    obtain ⟨a, ha⟩ : ∃ a, A[n]? = some a := ⟨_, List.getElem?_eq_getElem (by omega)⟩
    obtain ⟨v, hv⟩ : ∃ v, Ls[n]? = some v := ⟨_, List.getElem?_eq_getElem (by rw [h.len]; omega)⟩
    have he : elsAt A (n + 1) = a.2 := by
      unfold elsAt
      rw [List.getD_cons_succ, List.getD_eq_getElem?_getD, ha]
      rfl
    obtain ⟨q2, c2, rfl, _, hr2⟩ := own_slice (h.el n v a hv ha)
    rw [he]
    refine ⟨q2, c2, ?_, hr2⟩
    have := hr1 (n + 1) _ (by rw [List.getElem?_cons_succ]; exact hv)
    rwa [Nat.zero_add] at this

set_option maxRecDepth 100000 in
set_option maxHeartbeats 4000000 in
theorem stands_any {w : World} {B p m lim : Nat} {A : Hp} (h : St w B p m lim A) :
    Calls Tryd.prog 14 #[.pointer (some ⟨m, 0, none⟩)] w fun e w' => e = .returned (.bool true) ∧ Below w.heap.size w w' := by
  obtain ⟨F, G, kv, lv, Ls, hh, hb, -⟩ := h
  have hlim : lim ≤ 100000 ∧ usedS A ≤ lim := by obtain ⟨_, _, _, _, _, _, rfl, q⟩ := hh; exact ⟨q.top, q.le⟩
  have hAl : A.length ≤ 100000 := by have := used_ge A; omega
  obtain ⟨lg, lc, rfl, hls⟩ := hb.list
  have hu := fun (W : World) (hW : Below w.heap.size w W) => used_any (hh.next hW)
  have c0 := hb.c0
  have c3 := hb.c3
  have HC : Hid (∀ W, Below w.heap.size w W → W.cell? ⟨m, 0, none⟩ = some (.pointer (some ⟨p, 0, none⟩)) ∧ W.cell? ⟨m, 2, none⟩ = some (.slice (some ⟨lg, 0, none⟩) (A.length + 1) lc)) := fun W hW => ⟨(hb.next hW).c0, (hb.next hW).c2⟩
  have HLS : Hid (∀ n, n ≤ A.length → ∃ q c, w.cell? ⟨lg, n, none⟩ = some (.slice q (elsAt A n).length c) ∧ (0 < (elsAt A n).length → ∃ g, q = some ⟨g, 0, none⟩ ∧ w.rangeAt g 0 (vcs (elsAt A n)))) := hls
  have HGET : Hid (∀ W, Below w.heap.size w W → ∀ (v : V) (i : Int), v.2.2.size ≤ 9223372036854775807 → Calls Tryd.prog 12 #[.pointer (some ⟨p, 0, none⟩), .agg #[.int .i64 v.1, .int .i64 v.2.1, .string v.2.2], .int .i64 i] W fun e w' => e = .returned (.tuple #[.agg (vc (getH A v i).1).toArray, .int .i64 (getH A v i).2]) ∧ Below W.heap.size W w') := fun W hW v i hs => get_any (hh.next hW) v i hs
  have HLEN : Hid (∀ W, Below w.heap.size w W → ∀ (v : V), v.2.2.size ≤ 9223372036854775807 → Calls Tryd.prog 13 #[.pointer (some ⟨p, 0, none⟩), .agg #[.int .i64 v.1, .int .i64 v.2.1, .string v.2.2]] W fun e w' => e = .returned (.tuple #[.int .i64 ((findH A v).1.2.length : Int), .int .i64 (findH A v).2]) ∧ Below W.heap.size W w') := fun W hW v hs => lenH_any (hh.next hW) v hs
  clear hh hb hls
  have y0 := cell_regrown c0
  have y3 := cell_regrown c3
  have c1 : ∀ d os, Calls Tryd.prog 19 #[.pointer (some ⟨p, 0, none⟩)] (Sort.grow (redrawn w d) os) fun e w'' => e = .returned (.int .i64 ((usedS A : Nat) : Int)) ∧ ∃ z : Regrown, w'' = Sort.grow (redrawn w z.d) z.os := fun d os =>
    Calls.regrown_of ((hu _ (below_regrown w d os)).mono fun e w' q => ⟨q.1, by rw [q.2]; exact Below.refl _ _⟩)
  have nu : ((usedS A : Int) != (usedS A : Int)) = false := by simp
  go_enter Tryd.func14, Tryd.ntmps14
  go_wp2_with fail
  refine wp_region_quiet_below (by kernel_rfl) (by kernel_rfl) ?_
  repeat (first | go_big_quiet_step (first | with_reducible exact c1 _ _) | quiet_step (first | with_reducible exact c1 _ _))
  refine wpQuiet_nil ?_
  intro _ hw'
  obtain ⟨⟨dq, osq⟩, hw''⟩ := hw'
  subst hw''
  have hY := below_regrown w dq osq
  change Exit.then _ _ Exit.normal _ (Sort.grow (redrawn w dq) osq)
  generalize Sort.grow (redrawn w dq) osq = W0 at hY ⊢
  clear c1
  have hB0 : Hid (Below w.heap.size w W0) := hY
  clear hY y0 y3 c0 c3 hu nu
  go_wp2_with fail
  go_loopw [3] (fun v wr => ∃ n : Nat, n ≤ A.length + 1 ∧ v = .int .i64 (n : Int) ∧ Hid (Below w.heap.size w wr)) (fun v _ => A.length + 1 - (intOf v).toNat)
  case atStart => exact ⟨0, Nat.zero_le _, rfl, hB0⟩
  case round =>
    obtain ⟨n, hn, rfl, hB⟩ := hrel
    obtain ⟨c0, c2⟩ := HC.out wr hB.out
    by_cases hlt : n < A.length + 1
    case neg =>
      obtain rfl : n = A.length + 1 := by omega
      go_wp2
      first | (change bodyPost Tryd.prog Tryd.f14 _ Exit.ret _ _) | (simp only [Exit.noGoto])
      go_ret
      exact ⟨rfl, hB.out⟩
    have hlt' : (n : Int) < (A.length : Int) + 1 := by omega
    obtain ⟨q, c, hq, hqr⟩ := HLS.out n (by omega)
    have HX : Hid (∀ Y, Below w.heap.size w Y → ∀ i (hi : i < (elsAt A n).length), ∃ g, q = some ⟨g, 0, none⟩ ∧ Y.cell? ⟨g, i * 3, none⟩ = some (.int .i64 (elsAt A n)[i].1) ∧ Y.cell? ⟨g, i * 3 + 1, none⟩ = some (.int .i64 (elsAt A n)[i].2.1) ∧ Y.cell? ⟨g, i * 3 + 2, none⟩ = some (.string (elsAt A n)[i].2.2)) := fun Y hY i hi => by
      obtain ⟨g, e, hr⟩ := hqr (by omega)
      have h3 := vcs_get hr i hi
      rw [Nat.zero_add] at h3
      have k := fun j v (hv : (vc (elsAt A n)[i])[j]? = some v) => (hY.cell (p := ⟨g, i * 3 + j, none⟩) (block_lt_of_cell (h3 j v hv))).trans (h3 j v hv)
      exact ⟨g, e, k 0 _ rfl, k 1 _ rfl, k 2 _ rfl⟩
    have HQ : Hid (∀ Y, Below w.heap.size w Y → Y.cell? ⟨lg, n, none⟩ = some (.slice q (elsAt A n).length c)) := fun Y hY => (hY.cell (p := ⟨lg, n, none⟩) (block_lt_of_cell hq)).trans hq
    have hlen := els_len (n := n) hlim.2 hlim.1
    have HFR := find_ref A n (by omega)
    have HGR : Hid (∀ i (hi : i < (elsAt A n).length), getH A (4, (n : Int), e0) (i : Int) = ((elsAt A n)[i], 0)) := fun i hi => get_ref A n i (by omega) hi
    clear hqr hq
    have b1 := Box3.new wr 4 (n : Int) e0 37
    have B1 : Below w.heap.size w (wr.alloc (.cells #[.int .i64 4, .int .i64 (n : Int), .string e0] 37)) := hB.out.alloc hB.out.size _
    have z1 : (wr.alloc (.cells #[.int .i64 4, .int .i64 (n : Int), .string e0] 37)).heap.size = wr.heap.size + 1 := by simp
    go_wp2_with fail
    generalize wr.alloc (.cells #[.int .i64 4, .int .i64 (n : Int), .string e0] 37) = X at b1 B1 z1 ⊢
    have y0 := cell_regrown b1.1.1.1
    have y1 := cell_regrown b1.1.2.1
    have y2 := cell_regrown b1.2.1
    have y3 := cell_regrown (HC.out X B1).1
    have c1 : ∀ d os, Calls Tryd.prog 13 #[.pointer (some ⟨p, 0, none⟩), .agg #[.int .i64 4, .int .i64 (n : Int), .string e0]] (Sort.grow (redrawn X d) os) fun e w'' => e = .returned (.tuple #[.int .i64 ((elsAt A n).length : Int), .int .i64 0]) ∧ ∃ z : Regrown, w'' = Sort.grow (redrawn X z.d) z.os := fun d os => by
      have := HLEN.out _ (below2 B1 (below_regrown X d os)) (4, (n : Int), e0) (by show e0.size ≤ _; decide)
      rw [HFR] at this
      exact Calls.regrown_of this
    clear c0 c2
    refine wp_region_quiet_below (by kernel_rfl) (by kernel_rfl) ?_
    repeat (first | go_big_quiet_step (first | with_reducible exact c1 _ _) | quiet_step (first | with_reducible exact c1 _ _))
    refine wpQuiet_nil ?_
    intro _ hw'
    obtain ⟨⟨dq, osq⟩, hw''⟩ := hw'
    subst hw''
    have hY := below_regrown X dq osq
    change Exit.then _ _ Exit.normal _ (Sort.grow (redrawn X dq) osq)
    generalize Sort.grow (redrawn X dq) osq = X2 at hY ⊢
    clear c1
    clear y0 y1 y2 y3
    replace b1 := b1.below hY (by omega)
    replace B1 := below2 B1 hY
    have z2 := hY.size
    clear hY
    have d2 := (HC.out X2 B1).2
    have dn := HQ.out X2 B1
    have n0 : (0 : Int) ≤ (n : Int) := by omega
    have nn : (((elsAt A n).length : Int) != ((elsAt A n).length : Int)) = false := by simp
    go_wp2_with fail
    have HB1 : Hid (Below w.heap.size w X2) := B1
    have hxb : wr.heap.size < X2.heap.size := by omega
    generalize wr.heap.size = xb at b1 hxb ⊢
    have HBX : Hid (Box3 X2 xb 4 (n : Int) e0) := b1
    clear b1 d2 dn nn HFR HLEN z1 z2 hB hB0 B1
    go_loopw [7] (fun v wv => ∃ i : Nat, i ≤ (elsAt A n).length ∧ v = .int .i64 (i : Int) ∧ Hid (Below X2.heap.size X2 wv)) (fun v _ => (elsAt A n).length - (intOf v).toNat)
    case atStart => exact ⟨0, Nat.zero_le _, rfl, Below.refl _ _⟩
    case round =>
      obtain ⟨i, hi, rfl, hB6⟩ := hrel
      have BV : Below w.heap.size w wr := below2 HB1.out hB6.out
      have d2 := (HC.out wr BV).2
      have dn := HQ.out wr BV
      by_cases hlt2 : i < (elsAt A n).length
      case neg =>
        obtain rfl : i = (elsAt A n).length := by omega
        have HBV : Hid (Below w.heap.size w wr) := BV
        go_wp2
        exact ⟨⟨n + 1, by omega, by go_num, HBV⟩, by simp [intOf]; omega⟩
      have i1 : (i : Int) < ((elsAt A n).length : Int) := by omega
      have i0 : (0 : Int) ≤ (i : Int) := by omega
      have bx := HBX.out.below hB6.out hxb
      have x0 := bx.1.1.1
      have x1 := bx.1.2.1
      have x2 := bx.2.1
      have x3 := (HC.out wr BV).1
      have hg := HGR.out i hlt2
      have HX2 : Hid (∀ Y, Below w.heap.size w Y → ∃ g, q = some ⟨g, 0, none⟩ ∧ Y.cell? ⟨g, i * 3, none⟩ = some (.int .i64 (elsAt A n)[i].1) ∧ Y.cell? ⟨g, i * 3 + 1, none⟩ = some (.int .i64 (elsAt A n)[i].2.1) ∧ Y.cell? ⟨g, i * 3 + 2, none⟩ = some (.string (elsAt A n)[i].2.2)) := fun Y hY => HX.out Y hY i hlt2
      generalize (elsAt A n)[i] = vv at hg HX2
      obtain ⟨vk, vn, vs⟩ := vv
      have C : Hid (∀ W : World, Below wr.heap.size wr W → Calls Tryd.prog 12 #[.pointer (some ⟨p, 0, none⟩), .agg #[.int .i64 4, .int .i64 (n : Int), .string e0], .int .i64 (i : Int)] W fun e w' => e = .returned (.tuple #[.agg #[.int .i64 vk, .int .i64 vn, .string vs], .int .i64 0]) ∧ Below W.heap.size W w') := fun W hW => by
        have := HGET.out W (below2 BV hW) (4, (n : Int), e0) (i : Int) (by show e0.size ≤ _; decide)
        rw [hg] at this
        exact this
      have SV : Hid (∀ w', Below wr.heap.size wr w' → w'.cell? ⟨m, 0, none⟩ = some (.pointer (some ⟨p, 0, none⟩)) ∧ w'.cell? ⟨xb, 0, none⟩ = some (.int .i64 4) ∧ w'.cell? ⟨xb, 1, none⟩ = some (.int .i64 (n : Int)) ∧ w'.cell? ⟨xb, 2, none⟩ = some (.string e0) ∧ Below wr.heap.size wr w') := fun w' hb => by
        have := bx.below hb (block_lt_of_cell x0)
        exact ⟨(HC.out w' (below2 BV hb)).1, this.1.1.1, this.1.2.1, this.2.1, hb⟩
      have hcd : Below wr.heap.size wr wr.drew := (Below.refl _ wr).drew
      clear bx hg HGR
      go_wp2_with fail
      clear d2 dn
      go_region_held3 (fun w' => w'.cell? ⟨m, 0, none⟩ = some (.pointer (some ⟨p, 0, none⟩)) ∧ w'.cell? ⟨xb, 0, none⟩ = some (.int .i64 4) ∧ w'.cell? ⟨xb, 1, none⟩ = some (.int .i64 (n : Int)) ∧ w'.cell? ⟨xb, 2, none⟩ = some (.string e0) ∧ Below wr.heap.size wr w') (exact SV.out _ (by first | assumption | exact Below.alloc (by assumption) (Below.size (by assumption)) _ | exact below_put3 (by assumption) (by first | (with_reducible exact Nat.le_refl _) | (with_reducible exact Below.size (by assumption))) _ _ _))
        (first
        | (go_at_call 12; refine (C.out _ (by first | exact hcd | exact hcd.alloc hcd.size _)).mono ?_; rintro e w2 ⟨rfl, hb2⟩; (first
            | (have z2 : Box3 w2 wr.heap.size 0 0 e0 := (Box3.new wr.drew 0 0 e0 37).below hb2 (by simp); have lz2 : wr.heap.size < w2.heap.size := Nat.lt_of_lt_of_le (by simp) hb2.size; have hcd2 : Below wr.heap.size wr w2 := (hcd.alloc hcd.size _).trans (hb2.mono (hcd.alloc hcd.size _).size); obtain ⟨⟨⟨z20, zf0⟩, ⟨z21, zf1⟩⟩, z22, zf2⟩ := id z2)
            | have hcd2 : Below wr.heap.size wr w2 := hcd.trans (hb2.mono hcd.size))))
      · rename_i hH
        have zb : Box3 (w2.alloc (.cells #[.int .i64 vk, .int .i64 vn, .string vs] 37)) w2.heap.size vk vn vs := Box3.new w2 vk vn vs 37
        have hB7 : Below wr.heap.size wr (w2.alloc (.cells #[.int .i64 vk, .int .i64 vn, .string vs] 37)) := hH.2.2.2.2
        change Exit.then _ _ Exit.normal _ (w2.alloc (.cells #[.int .i64 vk, .int .i64 vn, .string vs] 37))
        generalize w2.alloc (.cells #[.int .i64 vk, .int .i64 vn, .string vs] 37) = Y at hB7 zb ⊢
        have hB8 : Below X2.heap.size X2 Y := below2 hB6.out hB7
        have hB9 : Below w.heap.size w Y := below2 HB1.out hB8
        generalize w2.heap.size = xc at zb ⊢
        clear hH SV x0 x1 x2 x3 C hcd hcd2 hb2
        obtain ⟨⟨⟨p0, -⟩, ⟨p1, -⟩⟩, p2, -⟩ := id zb
        have yb0 := cell_regrown p0
        have yb1 := cell_regrown p1
        have yb2 := cell_regrown p2
        have yl2 := cell_regrown (HC.out Y hB9).2
        have yln := cell_regrown (HQ.out Y hB9)
        obtain ⟨g, rfl, x0, x1, x2⟩ := HX2.out Y hB9
        have yx0 := cell_regrown x0
        have yx1 := cell_regrown x1
        have yx2 := cell_regrown x2
        have nv := neqV vk vn vs vk vn vs
        rw [show (!((vk == vk && vn == vn) && vs.toList == vs.toList)) = false by simp] at nv
        clear x0 x1 x2 p0 p1 p2 zb
        go_wp2_with fail
        refine wp_region_quiet_below (by kernel_rfl) (by kernel_rfl) ?_
        repeat (first | go_big_quiet_step (first | fail) | quiet_step (first | fail))
        refine wpQuiet_nil ?_
        intro _ hw'
        obtain ⟨⟨dq, osq⟩, hw''⟩ := hw'
        subst hw''
        have hY := below_regrown Y dq osq
        change Exit.then _ _ Exit.normal _ (Sort.grow (redrawn Y dq) osq)
        generalize Sort.grow (redrawn Y dq) osq = Y2 at hY ⊢
        have hB10 : Hid (Below X2.heap.size X2 Y2) := below2 hB8 hY
        clear hY yb0 yb1 yb2 yl2 yln yx0 yx1 yx2 nv
        go_wp2
        exact ⟨⟨i + 1, by omega, by go_num, hB10⟩, by simp [intOf]; omega⟩
      · rename_i hH
        have zb : Box3 (put3 w2 wr.heap.size vk vn vs) wr.heap.size vk vn vs := z2.put vk vn vs
        have hB7 : Below wr.heap.size wr (put3 w2 wr.heap.size vk vn vs) := hH.2.2.2.2
        change Exit.then _ _ Exit.normal _ (put3 w2 wr.heap.size vk vn vs)
        generalize put3 w2 wr.heap.size vk vn vs = Y at hB7 zb ⊢
        have hB8 : Below X2.heap.size X2 Y := below2 hB6.out hB7
        have hB9 : Below w.heap.size w Y := below2 HB1.out hB8
        generalize wr.heap.size = xc at zb ⊢
        clear hH SV x0 x1 x2 x3 C hcd hcd2 hb2 z2 lz2 z20 z21 z22 zf0 zf1 zf2
        obtain ⟨⟨⟨p0, -⟩, ⟨p1, -⟩⟩, p2, -⟩ := id zb
        have yb0 := cell_regrown p0
        have yb1 := cell_regrown p1
        have yb2 := cell_regrown p2
        have yl2 := cell_regrown (HC.out Y hB9).2
        have yln := cell_regrown (HQ.out Y hB9)
        obtain ⟨g, rfl, x0, x1, x2⟩ := HX2.out Y hB9
        have yx0 := cell_regrown x0
        have yx1 := cell_regrown x1
        have yx2 := cell_regrown x2
        have nv := neqV vk vn vs vk vn vs
        rw [show (!((vk == vk && vn == vn) && vs.toList == vs.toList)) = false by simp] at nv
        clear x0 x1 x2 p0 p1 p2 zb
        go_wp2_with fail
        refine wp_region_quiet_below (by kernel_rfl) (by kernel_rfl) ?_
        repeat (first | go_big_quiet_step (first | fail) | quiet_step (first | fail))
        refine wpQuiet_nil ?_
        intro _ hw'
        obtain ⟨⟨dq, osq⟩, hw''⟩ := hw'
        subst hw''
        have hY := below_regrown Y dq osq
        change Exit.then _ _ Exit.normal _ (Sort.grow (redrawn Y dq) osq)
        generalize Sort.grow (redrawn Y dq) osq = Y2 at hY ⊢
        have hB10 : Hid (Below X2.heap.size X2 Y2) := below2 hB8 hY
        clear hY yb0 yb1 yb2 yl2 yln yx0 yx1 yx2 nv
        go_wp2
        exact ⟨⟨i + 1, by omega, by go_num, hB10⟩, by simp [intOf]; omega⟩
end Go.Proofs.YtdcioemjmmhbhaaDoor
