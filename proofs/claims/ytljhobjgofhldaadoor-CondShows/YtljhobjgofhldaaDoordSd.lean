import Derived.Test.YtljhobjgofhldaaDoordSh
namespace Go.Proofs.YtljhobjgofhldaaDoor
open Go.RowKit
theorem ArrAt.vin {w : World} {B : Nat} {q : Option Addr} {Ls : List (List V)} (h : ArrAt w B q Ls) : ∀ L ∈ Ls, ∀ v ∈ L, vIn v := fun L hL v hv => by
  obtain ⟨n, hn, rfl⟩ := List.getElem_of_mem hL
  obtain ⟨j, hj, rfl⟩ := List.getElem_of_mem hv
  obtain ⟨_, _, _, _, _, _, _, _, h5⟩ := h n hn
  obtain ⟨_, _, _, _, k3, _⟩ := h5 j hj
  exact k3
theorem vIn_zero : vIn (0, 0, e0) := ⟨⟨by decide, by decide⟩, by decide⟩
theorem vIn_getD {L : List V} (h : ∀ v ∈ L, vIn v) (j : Nat) : vIn (L.getD j (0, 0, e0)) := by
  rw [List.getD_eq_getElem?_getD]
  rcases Nat.lt_or_ge j L.length with hj | hj
  · rw [List.getElem?_eq_getElem hj]
    exact h _ (List.getElem_mem hj)
  · rw [List.getElem?_eq_none hj]
    exact vIn_zero
theorem vIn_list {Ls : List (List V)} (h : ∀ L ∈ Ls, ∀ v ∈ L, vIn v) (n : Nat) : ∀ v ∈ Ls.getD n [], vIn v := by
  rw [List.getD_eq_getElem?_getD]
  rcases Nat.lt_or_ge n Ls.length with hj | hj
  · rw [List.getElem?_eq_getElem hj]
    exact h _ (List.getElem_mem hj)
  · rw [List.getElem?_eq_none hj]
    exact fun v hv => (by cases hv)
theorem dpS_len {Ls : List (List V)} (h : ∀ L ∈ Ls, ∀ v ∈ L, vIn v) : ∀ (d : Nat) (v : V), vIn v → (dpS Ls d v).length ≤ bd d
  | 0, v, hv => shL_len hv
  | d + 1, v, hv => by
    rw [dpS]
    split
    · have h1 := jp_len (f := dpS Ls d) (l := Ls.getD v.2.1.toNat []) (m := bd d) (min (Ls.getD v.2.1.toNat []).length 16) fun j _ => dpS_len h d _ (vIn_getD (vIn_list h _) j)
      have h2 : (if 16 < (Ls.getD v.2.1.toNat []).length then ([44, 32, 46, 46] : List UInt8) else []).length ≤ 4 := by split <;> simp
      have h3 : min (Ls.getD v.2.1.toNat []).length 16 * (bd d + 2) ≤ 16 * (bd d + 2) := Nat.mul_le_mul_right _ (Nat.min_le_right _ _)
      have h4 := bd_ge d
      show _ ≤ 20 * bd d
      simp only [List.length_append, List.length_cons, List.length_nil]
      omega
    · have h1 := shL_len hv
      have h4 := bd_ge d
      show _ ≤ 20 * bd d
      omega
theorem bd3 {d : Nat} (h : d ≤ 3) : bd d ≤ 80000000 := by
  rcases d with _ | _ | _ | _ | d
  · decide
  · decide
  · decide
  · decide
  · omega
set_option maxRecDepth 100000 in
set_option maxHeartbeats 1000000 in
theorem show_deep {B b : Nat} {q : Option Addr} {cq : Nat} {Ls : List (List V)} {d : Nat} {dp : Int} (hdp : dp = (d : Int) + 1) (hd4 : d ≤ 3)
    (ih : ∀ {l : List UInt8} {v : V} {w : World}, ShW w B b q Ls l → vIn v → l.length + d * 10000000000000 ≤ 100000000000000 → Calls Tryd.prog 10 #[.slice q Ls.length cq, .pointer (some ⟨b, 0, none⟩), .agg #[.int .i64 v.1, .int .i64 v.2.1, .string v.2.2], .int .i64 (d : Int)] w fun e w' => (∃ r, e = .returned r) ∧ Hid (ShW w' B b q Ls (l ++ dpS Ls d v) ∧ Below B w w'))
    {l : List UInt8} {v : V} {w : World} (h : ShW w B b q Ls l) (hv : vIn v) (hl : l.length + (d + 1) * 10000000000000 ≤ 100000000000000) (hh : hasS Ls.length v = true) :
    Calls Tryd.prog 10 #[.slice q Ls.length cq, .pointer (some ⟨b, 0, none⟩), .agg #[.int .i64 v.1, .int .i64 v.2.1, .string v.2.2], .int .i64 dp] w fun e w' => (∃ r, e = .returned r) ∧ Hid (ShW w' B b q Ls (l ++ dpS Ls (d + 1) v) ∧ Below B w w') := by
  obtain ⟨k, n, s⟩ := v
  have hn : 0 ≤ n ∧ n.toNat < Ls.length := by
    simp [hasS] at hh
    obtain ⟨⟨h1, h2⟩, h3⟩ := hh
    subst h1
    simp [okV] at h2
    omega
  have B1 : Below w.heap.size w (w.alloc (.cells #[.int .i64 k, .int .i64 n, .string s] 26)) := (Below.refl _ w).alloc (Nat.le_refl _) _
  have HX : Hid (ShW (w.alloc (.cells #[.int .i64 k, .int .i64 n, .string s] 26)) B b q Ls l) := h.next B1
  have HB1 : Hid (Below B w (w.alloc (.cells #[.int .i64 k, .int .i64 n, .string s] 26))) := B1.mono h.s
  have HM : Hid (Box3 (w.alloc (.cells #[.int .i64 k, .int .i64 n, .string s] 26)) w.heap.size k n s) := Box3.new w k n s 26
  have HSZ : Hid (w.heap.size < (w.alloc (.cells #[.int .i64 k, .int .i64 n, .string s] 26)).heap.size) := by show w.heap.size < _; simp
  obtain ⟨⟨⟨x0, f0⟩, ⟨x1, f1⟩⟩, x2, f2⟩ := HM.out
  have dH : ∀ W, Calls Tryd.prog 15 #[.slice q Ls.length cq, .agg #[.int .i64 k, .int .i64 n, .string s]] W fun e w' => e = .returned (.bool true) ∧ Below W.heap.size W w' := fun W => by rw [← hh]; exact has_any q Ls.length cq (k, n, s) W hv
  obtain ⟨L, hL⟩ : ∃ L, Ls[n.toNat]'hn.2 = L := ⟨_, rfl⟩
  have dL : ∀ W, ShW W B b q Ls l → Calls Tryd.prog 18 #[.slice q Ls.length cq, .agg #[.int .i64 k, .int .i64 n, .string s]] W fun e w' => ∃ p c, e = .returned (.slice p L.length c) ∧ L.length ≤ c ∧ Hid ((∀ j (hj : j < L.length), ∃ b r, p = some ⟨b, r, none⟩ ∧ b < B ∧ vIn L[j] ∧ W.cell? ⟨b, r + 3 * j, none⟩ = some (.int .i64 L[j].1) ∧ W.cell? ⟨b, r + 3 * j + 1, none⟩ = some (.int .i64 L[j].2.1) ∧ W.cell? ⟨b, r + 3 * j + 2, none⟩ = some (.string L[j].2.2)) ∧ Below W.heap.size W w') := fun W hW => by
    refine (list_any (v := (k, n, s)) hW.a hn.1 hn.2 hW.s).mono ?_
    rintro e w' ⟨⟨p, c, rfl, h1, h2⟩, h3⟩
    subst hL
    exact ⟨p, c, rfl, h1, h2.out, h3⟩
  have HD : Hid (dpS Ls (d + 1) (k, n, s) = [91] ++ jp (dpS Ls d) L (min L.length 16) ++ (if 16 < L.length then [44, 32, 46, 46] else []) ++ [93]) := by
    show dpS Ls (d + 1) (k, n, s) = _
    have e : Ls.getD n.toNat [] = L := by rw [List.getD_eq_getElem?_getD, List.getElem?_eq_getElem hn.2]; exact hL
    rw [dpS, if_pos hh, e]
  have dp1 : ¬ dp < 1 := by omega
  have HDP : Hid (dp - 1 = (d : Int) ∧ 1 ≤ dp ∧ dp ≤ 4) := by show dp - 1 = (d : Int) ∧ 1 ≤ dp ∧ dp ≤ 4; omega
  have HLV : Hid (∀ v ∈ L, vIn v) := fun v hv' => h.a.vin L (by rw [← hL]; exact List.getElem_mem hn.2) v hv'
  have HD3 : Hid (d ≤ 3) := hd4
  clear hL hh h B1 f0 f1 f2 hdp hd4
  go_enter Tryd.func10, Tryd.ntmps10
  go_wp2_with (first
    | (go_at_call 15; (with_reducible refine (dH _).mono ?_); rintro z0 w0 ⟨rfl, hb0⟩; have HX0 : Hid (ShW w0 B b q Ls l) := HX.out.next hb0; have HB0 : Hid (Below B w w0) := HB1.out.trans (hb0.mono HX.out.s); obtain ⟨⟨⟨y0, -⟩, ⟨y1, -⟩⟩, y2, -⟩ := HM.out.below hb0 HSZ.out; clear hb0 x0 x1 x2)
    | (go_at_call 18; (with_reducible refine (dL _ HX0.out).mono ?_); rintro z1 w1 ⟨p, c, rfl, hc, H1⟩; have HX1 : Hid (ShW w1 B b q Ls l) := HX0.out.next H1.out.2; have HB2 : Hid (Below B w w1) := HB0.out.trans (H1.out.2.mono HX0.out.s); have dW : Calls Tryd.prog 19 #[.pointer (some ⟨b, 0, none⟩), .int .u8 91] w1 _ := bb_any 91 HX1.out.i (by omega) HX1.out.s; clear dL dH)
    | (go_at_call 19; (with_reducible refine dW.mono ?_); rintro z2 w2 ⟨⟨r, rfl⟩, H2⟩; clear dW)
    | fail)
  obtain ⟨m, hm⟩ : ∃ m : Nat, min L.length 16 = m := ⟨_, rfl⟩
  have hmi : min (L.length : Int) 16 = (m : Int) := by omega
  have hmx : max (m : Int) 0 = (m : Int) := by omega
  have hmL : m ≤ L.length ∧ m ≤ 16 := by omega
  rw [hm] at HD
  have HE : Hid (∀ wr, Below B w0 wr → ∀ j (hj : j < L.length), ∃ b r, p = some ⟨b, r, none⟩ ∧ vIn L[j] ∧ wr.cell? ⟨b, r + j * 3, none⟩ = some (.int .i64 L[j].1) ∧ wr.cell? ⟨b, r + j * 3 + 1, none⟩ = some (.int .i64 L[j].2.1) ∧ wr.cell? ⟨b, r + j * 3 + 2, none⟩ = some (.string L[j].2.2)) := fun wr hb j hj => by
    obtain ⟨b', r', k1, k2, k3, k4, k5, k6⟩ := H1.out.1 j hj
    refine ⟨b', r', k1, k3, ?_⟩
    rw [Nat.mul_comm j 3]
    exact ⟨(hb.cell (p := ⟨b', r' + 3 * j, none⟩) k2).trans k4, (hb.cell (p := ⟨b', r' + 3 * j + 1, none⟩) k2).trans k5, (hb.cell (p := ⟨b', r' + 3 * j + 2, none⟩) k2).trans k6⟩
  have HI : Hid (ShW w2 B b q Ls (l ++ ([91] ++ jp (dpS Ls d) L 0)) ∧ Below B w0 w2) := ⟨HX1.out.more H2.out.1 H2.out.2.1, (H1.out.2.mono HX0.out.s).trans H2.out.2.1⟩
  have HLN : Hid (∀ i, i ≤ 16 → (jp (dpS Ls d) L i).length ≤ 2000000000) := fun i hi => by
    have hs := HX0.out.a.vin
    have h1 := jp_len (f := dpS Ls d) (l := L) (m := bd d) i fun j _ => dpS_len hs d _ (vIn_getD (HLV.out) j)
    have h2 := bd3 HD3.out
    have h3 : i * (bd d + 2) ≤ 16 * (bd d + 2) := Nat.mul_le_mul_right _ hi
    omega
  have HIH : Hid (∀ {l : List UInt8} {v : V} {w : World}, ShW w B b q Ls l → vIn v → l.length + d * 10000000000000 ≤ 100000000000000 → Calls Tryd.prog 10 #[.slice q Ls.length cq, .pointer (some ⟨b, 0, none⟩), .agg #[.int .i64 v.1, .int .i64 v.2.1, .string v.2.2], .int .i64 (d : Int)] w fun e w' => (∃ r, e = .returned r) ∧ Hid (ShW w' B b q Ls (l ++ dpS Ls d v) ∧ Below B w w')) := ih
  have HLL : Hid (l.length + (d + 1) * 10000000000000 ≤ 100000000000000) := hl
  simp only [hmi, hmx, Int.toNat_natCast]
  have HMM : Hid (m = min L.length 16) := hm.symm
  clear H1 H2 HX1 HB2 HX HB1 HM HSZ y0 y1 y2 hm ih hl
  go_loopw [34] (fun vi wr => ∃ i : Nat, i ≤ m ∧ vi = .int .i64 (i : Int) ∧ Hid (ShW wr B b q Ls (l ++ ([91] ++ jp (dpS Ls d) L i)) ∧ Below B w0 wr)) (fun vi _ => m - (intOf vi).toNat)
  case atStart => exact ⟨0, Nat.zero_le _, rfl, HI⟩
  case round =>
    clear HI
    obtain ⟨i, hi, rfl, hI⟩ := hrel
    have HI : Hid (ShW wr B b q Ls (l ++ ([91] ++ jp (dpS Ls d) L i)) ∧ Below B w0 wr) := hI
    have i0 : (0 : Int) ≤ (i : Int) := Int.natCast_nonneg _
    clear hI
    by_cases hlt : i < m
    · have i1 : (i : Int) < (m : Int) := Int.ofNat_lt.2 hlt
      obtain ⟨g, o, rfl, hvi, c0, c1, c2⟩ := HE.out wr HI.out.2 i (by omega)
      have HG : Hid (L.getD i (0, 0, e0) = L[i]'(by omega)) := by show L.getD i (0, 0, e0) = _; rw [List.getD_eq_getElem?_getD, List.getElem?_eq_getElem (by omega)]; rfl
      obtain ⟨⟨vk, vn, vs⟩, hvv⟩ : ∃ x, L[i]'(by omega) = x := ⟨_, rfl⟩
      rw [hvv] at hvi c0 c1 c2 HG
      have HVI : Hid (vIn (vk, vn, vs)) := hvi
      have bl : Below wr.heap.size wr (wr.alloc (.cells #[.int .i64 vk, .int .i64 vn, .string vs] 26)) := (Below.refl _ wr).alloc (Nat.le_refl _) _
      have HY : Hid (ShW (wr.alloc (.cells #[.int .i64 vk, .int .i64 vn, .string vs] 26)) B b q Ls (l ++ ([91] ++ jp (dpS Ls d) L i)) ∧ Below B w0 (wr.alloc (.cells #[.int .i64 vk, .int .i64 vn, .string vs] 26))) := ⟨HI.out.1.next bl, HI.out.2.trans (bl.mono HI.out.1.s)⟩
      have HN : Hid ((wr.alloc (.cells #[.int .i64 vk, .int .i64 vn, .string vs] 26)).heap[wr.heap.size]? = some (.cells #[.int .i64 vk, .int .i64 vn, .string vs] 26 (0, 0)) ∧ wr.heap.size ≠ b) := ⟨World.alloc_heap_new wr _, by
        have : b < wr.heap.size := by
          rcases HI.out.1.i with x | x
          · exact x.lt
          · exact x.lt
        omega⟩
      have hii : IntKind.i64.wrap (dp - 1) = (d : Int) := by
        have := HDP.out
        rw [IntKind.wrap_i64]
        omega
      clear hvv hvi bl
      by_cases hi0 : 0 < i
      · have i2 : (0 : Int) < (i : Int) := Int.ofNat_lt.2 hi0
        have dW : Calls Tryd.prog 16 #[.pointer (some ⟨b, 0, none⟩), .string ⟨#[44, 32]⟩] (wr.alloc (.cells #[.int .i64 vk, .int .i64 vn, .string vs] 26)) _ := bw_any ⟨#[44, 32]⟩ HY.out.1.i (by
          have a1 := HLN.out i (by omega)
          have a2 := HLL.out
          simp only [List.length_append, List.length_cons, List.length_nil]
          show _ + 2 ≤ _
          omega) HY.out.1.s
        go_wp2_with fail
        refine dW.mono ?_
        rintro z3 w3 ⟨⟨r3, rfl⟩, H3⟩
        have hbx := H3.out.2.2 _ _ HN.out.1 (fun e => HN.out.2 (Option.some.inj e)) (fun c fz e => by cases e)
        have t0 : w3.cell? ⟨wr.heap.size, 0, none⟩ = some (.int .i64 vk) := by rw [Lib.cell_of_heap hbx]; rfl
        have t1 : w3.cell? ⟨wr.heap.size, 1, none⟩ = some (.int .i64 vn) := by rw [Lib.cell_of_heap hbx]; rfl
        have t2 : w3.cell? ⟨wr.heap.size, 2, none⟩ = some (.string vs) := by rw [Lib.cell_of_heap hbx]; rfl
        have HS3 : Hid (ShW w3 B b q Ls (l ++ ([91] ++ jp (dpS Ls d) L i) ++ [44, 32]) ∧ Below B w0 w3) := ⟨HY.out.1.more H3.out.1 H3.out.2.1, HY.out.2.trans H3.out.2.1⟩
        have dS := HIH.out HS3.out.1 HVI.out (by
          have a1 := HLN.out i (by omega)
          have a2 := HLL.out
          simp only [List.length_append, List.length_cons, List.length_nil]
          omega)
        clear hbx dW H3
        go_wp2_with fail
        refine dS.mono ?_
        rintro z4 w4 ⟨⟨r4, rfl⟩, H4⟩
        clear dS
        go_wp2_with fail
        refine ⟨⟨i + 1, hlt, by push_cast; rfl, ⟨?_, HS3.out.2.trans H4.out.2⟩⟩, by show m - ((i : Int) + 1).toNat < m - (i : Int).toNat; omega⟩
        have e : l ++ ([91] ++ jp (dpS Ls d) L (i + 1)) = l ++ ([91] ++ jp (dpS Ls d) L i) ++ [44, 32] ++ dpS Ls d (vk, vn, vs) := by
          rw [jp, if_pos hi0, HG.out]
          simp
        rw [e]
        exact H4.out.1
      · have i2 : ¬ (0 : Int) < (i : Int) := by omega
        have dS := HIH.out HY.out.1 HVI.out (by
          have a1 := HLN.out i (by omega)
          have a2 := HLL.out
          simp only [List.length_append, List.length_cons, List.length_nil]
          omega)
        go_wp2_with fail
        refine dS.mono ?_
        rintro z4 w4 ⟨⟨r4, rfl⟩, H4⟩
        clear dS
        go_wp2_with fail
        refine ⟨⟨i + 1, hlt, by push_cast; rfl, ⟨?_, HY.out.2.trans H4.out.2⟩⟩, by show m - ((i : Int) + 1).toNat < m - (i : Int).toNat; omega⟩
        have e : l ++ ([91] ++ jp (dpS Ls d) L (i + 1)) = l ++ ([91] ++ jp (dpS Ls d) L i) ++ dpS Ls d (vk, vn, vs) := by
          rw [jp, if_neg hi0, HG.out]
          simp
        rw [e]
        exact H4.out.1
    obtain rfl : i = m := by omega
    have i1 : ¬ ((i : Int) < (i : Int)) := by omega
    have HBW : Hid (∀ {w3 : World} {r : List UInt8}, ShW w3 B b q Ls (l ++ ([91] ++ jp (dpS Ls d) L i) ++ r) → r.length ≤ 4 → Below B w0 w3 → Calls Tryd.prog 19 #[.pointer (some ⟨b, 0, none⟩), .int .u8 93] w3 fun e w' => (∃ r, e = .returned r) ∧ Hid (ShW w' B b q Ls (l ++ ([91] ++ jp (dpS Ls d) L i) ++ r ++ [93]) ∧ Below B w w')) := fun {w3 r} hs hr hb => by
      refine Calls.mono (bb_any 93 hs.i (by
          have a1 := HLN.out i (by omega)
          have a2 := HLL.out
          simp only [List.length_append, List.length_cons, List.length_nil]
          omega) hs.s) ?_
      rintro e w' ⟨h1, h2⟩
      exact ⟨h1, hs.more h2.out.1 h2.out.2.1, HB0.out.trans (hb.trans h2.out.2.1)⟩
    by_cases hl16 : 16 < L.length
    · have l16 : (16 : Int) < (L.length : Int) := Int.ofNat_lt.2 hl16
      have dW : Calls Tryd.prog 16 #[.pointer (some ⟨b, 0, none⟩), .string ⟨#[44, 32, 46, 46]⟩] wr _ := bw_any ⟨#[44, 32, 46, 46]⟩ HI.out.1.i (by
          have a1 := HLN.out i (by omega)
          have a2 := HLL.out
          simp only [List.length_append, List.length_cons, List.length_nil]
          show _ + 4 ≤ _
          omega) HI.out.1.s
      rw [if_pos hl16] at HD
      go_wp2_with fail
      refine dW.mono ?_
      rintro z3 w3 ⟨⟨r3, rfl⟩, H3⟩
      have dB := HBW.out (r := [44, 32, 46, 46]) (HI.out.1.more H3.out.1 H3.out.2.1) (by simp) (HI.out.2.trans H3.out.2.1)
      clear dW H3
      go_wp2_with fail
      refine dB.mono ?_
      rintro z4 w4 ⟨⟨r4, rfl⟩, H4⟩
      clear dB
      go_wp2_with fail
      go_end0
      refine ⟨⟨_, rfl⟩, ?_⟩
      rw [HD.out]
      simpa using H4
    · have l16 : ¬ (16 : Int) < (L.length : Int) := by omega
      have dB := HBW.out (r := []) (by simpa using HI.out.1) (by simp) HI.out.2
      rw [if_neg hl16] at HD
      go_wp2_with fail
      refine dB.mono ?_
      rintro z4 w4 ⟨⟨r4, rfl⟩, H4⟩
      clear dB
      go_wp2_with fail
      go_end0
      refine ⟨⟨_, rfl⟩, ?_⟩
      rw [HD.out]
      simpa using H4
theorem show_dp {B b : Nat} {q : Option Addr} {cq : Nat} {Ls : List (List V)} : ∀ (d : Nat), d ≤ 4 → ∀ {l : List UInt8} {v : V} {w : World}, ShW w B b q Ls l → vIn v → l.length + d * 10000000000000 ≤ 100000000000000 → Calls Tryd.prog 10 #[.slice q Ls.length cq, .pointer (some ⟨b, 0, none⟩), .agg #[.int .i64 v.1, .int .i64 v.2.1, .string v.2.2], .int .i64 (d : Int)] w fun e w' => (∃ r, e = .returned r) ∧ Hid (ShW w' B b q Ls (l ++ dpS Ls d v) ∧ Below B w w')
  | 0, _, l, v, w, h, hv, hl => show_plain h hv (by omega) (.inl (by decide))
  | d + 1, hd, l, v, w, h, hv, hl => by
    cases hh : hasS Ls.length v with
    | true =>
      exact show_deep (d := d) (by push_cast; rfl) (by omega) (fun h hv hl => show_dp d (by omega) h hv hl) h hv hl hh
    | false =>
      have q := show_plain (cq := cq) (dp := ((d + 1 : Nat) : Int)) h hv (by omega) (.inr hh)
      have e : dpS Ls (d + 1) v = shL v := by
        rw [dpS, hh]
        rfl
      rw [e]
      exact q
end Go.Proofs.YtljhobjgofhldaaDoor
