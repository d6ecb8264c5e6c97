import Derived.Test.YtljhobjgofhldaaDoordRd
namespace Go.Proofs.YtljhobjgofhldaaDoor
open Go.RowKit
theorem bcat (a b : List UInt8) : (⟨a.toArray⟩ : ByteArray) ++ ⟨b.toArray⟩ = ⟨(a ++ b).toArray⟩ := arr_app a b
set_option maxRecDepth 100000 in
set_option maxHeartbeats 1000000 in
theorem rdeep_deep {q : Option Addr} {cq : Nat} {Ls : List (List V)} {d : Nat} {dp : Int} (hdp : min dp 4 = (d : Int) + 1) (hd4 : d ≤ 3)
    (ih : ∀ {v : V} {w : World}, ArrAt w w.heap.size q Ls → Tab10 w → vIn v → Calls Tryd.prog 6 #[.agg #[.int .i64 v.1, .int .i64 v.2.1, .string v.2.2], .slice q Ls.length cq, .int .i64 (d : Int)] w fun e w' => e = .returned (.string ⟨(dpS Ls d v).toArray⟩) ∧ Below w.heap.size w w')
    {v : V} {w : World} (hA : ArrAt w w.heap.size q Ls) (ht : Tab10 w) (hv : vIn v) (hh : hasS Ls.length v = true) :
    Calls Tryd.prog 6 #[.agg #[.int .i64 v.1, .int .i64 v.2.1, .string v.2.2], .slice q Ls.length cq, .int .i64 dp] w fun e w' => e = .returned (.string ⟨(dpS Ls (d + 1) v).toArray⟩) ∧ Below w.heap.size w w' := by
  obtain ⟨k, n, s⟩ := v
  obtain ⟨hok, rfl, hn⟩ : okV k n s = true ∧ k = 4 ∧ (0 ≤ n ∧ n < (Ls.length : Int)) := by
    simp [hasS] at hh
    obtain ⟨⟨h1, h2⟩, h3⟩ := hh
    subst h1
    refine ⟨h2, rfl, ?_, h3⟩
    simp [okV] at h2
    omega
  obtain ⟨x, rfl⟩ : ∃ x : Nat, n = (x : Int) := ⟨n.toNat, by omega⟩
  have hx : x < Ls.length := by omega
  obtain ⟨L, hL⟩ : ∃ L, Ls[x]'hx = L := ⟨_, rfl⟩
  have HD : Hid (dpS Ls (d + 1) (4, (x : Int), s) = [91] ++ jp (dpS Ls d) L (min L.length 16) ++ (if 16 < L.length then [44, 32, 46, 46] else []) ++ [93]) := by
    show dpS Ls (d + 1) (4, (x : Int), s) = _
    have e : Ls.getD (x : Int).toNat [] = L := by rw [List.getD_eq_getElem?_getD, Int.toNat_natCast, List.getElem?_eq_getElem hx]; exact hL
    rw [dpS, if_pos hh]
    show [91] ++ jp (dpS Ls d) (Ls.getD (x : Int).toNat []) (min (Ls.getD (x : Int).toNat []).length 16) ++ (if 16 < (Ls.getD (x : Int).toNat []).length then [44, 32, 46, 46] else []) ++ [93] = _
    rw [e]
  have HLV : Hid (∀ v ∈ L, vIn v) := fun v hv' => hA.vin L (by rw [← hL]; exact List.getElem_mem hx) v hv'
  have HLN : Hid (∀ i, i ≤ 16 → (jp (dpS Ls d) L i).length ≤ 2000000000) := fun i hi => by
    have h1 := jp_len (f := dpS Ls d) (l := L) (m := bd d) i fun j _ => dpS_len hA.vin d _ (vIn_getD (HLV.out) j)
    have h2 := bd3 hd4
    have h3 : i * (bd d + 2) ≤ 16 * (bd d + 2) := Nat.mul_le_mul_right _ hi
    omega
  have HDL : Hid (∀ v, vIn v → (dpS Ls d v).length ≤ 80000000) := fun v hv => Nat.le_trans (dpS_len hA.vin d v hv) (bd3 hd4)
  obtain ⟨g, o, p, c, rfl, hg, hcl, hcc, h5⟩ := hA x hx
  rw [hL] at hcl hcc
  have HE : Hid (∀ wr, Below w.heap.size w wr → ∀ j (hj : j < L.length), ∃ b r, p = some ⟨b, r, none⟩ ∧ vIn L[j] ∧ wr.cell? ⟨b, r + j * 3, none⟩ = some (.int .i64 L[j].1) ∧ wr.cell? ⟨b, r + j * 3 + 1, none⟩ = some (.int .i64 L[j].2.1) ∧ wr.cell? ⟨b, r + j * 3 + 2, none⟩ = some (.string L[j].2.2)) := fun wr hb j hj => by
    subst hL
    obtain ⟨b', r', k1, k2, k3, k4, k5, k6⟩ := h5 j hj
    refine ⟨b', r', k1, k3, ?_⟩
    rw [Nat.mul_comm j 3]
    exact ⟨(hb.cell (p := ⟨b', r' + 3 * j, none⟩) k2).trans k4, (hb.cell (p := ⟨b', r' + 3 * j + 1, none⟩) k2).trans k5, (hb.cell (p := ⟨b', r' + 3 * j + 2, none⟩) k2).trans k6⟩
  have HIH : Hid (∀ {v : V} {wr : World}, Below w.heap.size w wr → vIn v → Calls Tryd.prog 6 #[.agg #[.int .i64 v.1, .int .i64 v.2.1, .string v.2.2], .slice (some ⟨g, o, none⟩) Ls.length cq, .int .i64 (d : Int)] wr fun e w' => e = .returned (.string ⟨(dpS Ls d v).toArray⟩) ∧ Below wr.heap.size wr w') := fun {v wr} hb hv => ih ((hA.below hb).up hb.size) (ht.next hb) hv
  have B1 : Below w.heap.size w (w.alloc (.cells #[.int .i64 4, .int .i64 (x : Int), .string s] 26)) := (Below.refl _ w).alloc (Nat.le_refl _) _
  have HB1 : Hid _ := B1
  have HM : Hid (Box3 (w.alloc (.cells #[.int .i64 4, .int .i64 (x : Int), .string s] 26)) w.heap.size 4 (x : Int) s) := Box3.new w 4 (x : Int) s 26
  have HSZ : Hid (w.heap.size < (w.alloc (.cells #[.int .i64 4, .int .i64 (x : Int), .string s] 26)).heap.size) := by show w.heap.size < _; simp
  have HCL : Hid (∀ wr, Below w.heap.size w wr → wr.cell? ⟨g, o + x, none⟩ = some (.slice p L.length c)) := fun wr hb => (hb.cell (p := ⟨g, o + x, none⟩) hg).trans hcl
  obtain ⟨⟨⟨x0, f0⟩, ⟨x1, f1⟩⟩, x2, f2⟩ := HM.out
  have dV := fun W : World => rvalid_any 4 (x : Int) s W hv.2
  rw [hok] at dV
  have hx0 : (0 : Int) ≤ (x : Int) := Int.natCast_nonneg _
  have hxl : (x : Int) < (Ls.length : Int) := hn.2
  have hmn : (4 < dp ∧ d = 3) ∨ (¬ (4 < dp) ∧ 1 ≤ dp ∧ dp = (d : Int) + 1) := by omega
  have HDD : Hid (d ≤ 3) := hd4
  clear ih hA ht hL hh hok h5 hcl hn hx B1 f0 f1 f2 hdp hd4 hv
  rcases hmn with ⟨h4, rfl⟩ | ⟨h4, h1, hdd⟩
  · go_enter Tryd.func6, Tryd.ntmps6
    go_wp2_with (first
      | (go_at_call 12; refine (dV _).mono ?_; rintro z1 w1 ⟨rfl, hb1⟩; have HB2 : Hid (Below w.heap.size w w1) := HB1.out.trans (hb1.mono HB1.out.size); obtain ⟨⟨⟨y0, -⟩, ⟨y1, -⟩⟩, y2, -⟩ := HM.out.below hb1 HSZ.out; have y3 := HCL.out _ HB2.out; clear hb1 x0 x1 x2)
      | fail)
    obtain ⟨m, hm⟩ : ∃ m : Nat, min L.length 16 = m := ⟨_, rfl⟩
    have hmL : m ≤ L.length ∧ m ≤ 16 := by omega
    rw [hm] at HD
    have HMM : Hid (min L.length 16 = m) := hm
    have hdx : decide (Ls.length ≤ x) = false := by simp; omega
    simp only [hdx]
    clear hm y0 y1 y2 y3 hxl hx0 hdx
    go_loopw [9, 10] (fun vs vi wr => ∃ i : Nat, i ≤ m ∧ vs = .string ⟨([91] ++ jp (dpS Ls 3) L i).toArray⟩ ∧ vi = .int .i64 (i : Int) ∧ Hid (Below w.heap.size w wr)) (fun _ vi _ => m - (intOf vi).toNat)
    case atStart => exact ⟨0, Nat.zero_le _, rfl, rfl, HB2⟩
    case round =>
      obtain ⟨i, hi, rfl, rfl, HI⟩ := hrel
      have i0 : (0 : Int) ≤ (i : Int) := Int.natCast_nonneg _
      obtain ⟨S, hS⟩ : ∃ S, (⟨([91] ++ jp (dpS Ls 3) L i).toArray⟩ : ByteArray) = S := ⟨_, rfl⟩
      have hSz : S.size ≤ 3000000000 := by
        rw [← hS, arr_size]
        have := HLN.out i (by omega)
        simp only [List.length_append, List.length_cons, List.length_nil]
        omega
      have HS : Hid ((⟨([91] ++ jp (dpS Ls 3) L i).toArray⟩ : ByteArray) = S) := hS
      rw [hS]
      clear hS
      by_cases hlt : i < m
      · have i1 : (i : Int) < (L.length : Int) := by omega
        have i16 : (i : Int) < 16 := by omega
        obtain ⟨bb, rr, rfl, hvi, c0, c1, c2⟩ := HE.out wr HI.out i (by omega)
        have HG : Hid (L.getD i (0, 0, e0) = L[i]'(by omega)) := by show L.getD i (0, 0, e0) = _; rw [List.getD_eq_getElem?_getD, List.getElem?_eq_getElem (by omega)]; rfl
        obtain ⟨⟨vk, vn, vs⟩, hvv⟩ : ∃ x, L[i]'(by omega) = x := ⟨_, rfl⟩
        rw [hvv] at hvi c0 c1 c2 HG
        obtain ⟨Z, hZ⟩ : ∃ Z, (⟨(dpS Ls 3 (vk, vn, vs)).toArray⟩ : ByteArray) = Z := ⟨_, rfl⟩
        have hZz : Z.size ≤ 80000000 := by rw [← hZ, arr_size]; exact HDL.out _ hvi
        have dS : ∀ W, Below w.heap.size w W → Calls Tryd.prog 6 #[.agg #[.int .i64 vk, .int .i64 vn, .string vs], .slice (some ⟨g, o, none⟩) Ls.length cq, .int .i64 3] W fun e w' => e = .returned (.string Z) ∧ Below W.heap.size W w' := fun W hb => by
          rw [← hZ]
          exact HIH.out (v := (vk, vn, vs)) hb hvi
        have HZ : Hid ((⟨(dpS Ls 3 (vk, vn, vs)).toArray⟩ : ByteArray) = Z) := hZ
        clear hvv hvi hZ
        by_cases hi0 : 0 < i
        · have i2 : (0 : Int) < (i : Int) := Int.ofNat_lt.2 hi0
          go_wp2_with fail
          refine (dS _ HI.out).mono ?_
          rintro z4 w4 ⟨rfl, hb4⟩
          have HB4 : Hid (Below w.heap.size w w4) := HI.out.trans (hb4.mono HI.out.size)
          clear hb4
          go_wp2_with fail
          have e : S ++ (⟨#[44, 32]⟩ : ByteArray) ++ Z = ⟨([91] ++ jp (dpS Ls 3) L (i + 1)).toArray⟩ := by
            rw [← HS.out, ← HZ.out, show (⟨#[44, 32]⟩ : ByteArray) = ⟨([44, 32] : List UInt8).toArray⟩ from rfl, bcat, bcat, jp, if_pos hi0, HG.out]
            simp
          exact ⟨⟨i + 1, hlt, by rw [← e], by push_cast; rfl, HB4⟩, by show m - ((i : Int) + 1).toNat < m - (i : Int).toNat; omega⟩
        · have i2 : ¬ (0 : Int) < (i : Int) := by omega
          go_wp2_with fail
          refine (dS _ HI.out).mono ?_
          rintro z4 w4 ⟨rfl, hb4⟩
          have HB4 : Hid (Below w.heap.size w w4) := HI.out.trans (hb4.mono HI.out.size)
          clear hb4
          go_wp2_with fail
          have e : S ++ Z = ⟨([91] ++ jp (dpS Ls 3) L (i + 1)).toArray⟩ := by
            rw [← HS.out, ← HZ.out, bcat, jp, if_neg hi0, HG.out]
            simp
          exact ⟨⟨i + 1, hlt, by rw [← e], by push_cast; rfl, HB4⟩, by show m - ((i : Int) + 1).toNat < m - (i : Int).toNat; omega⟩
      obtain rfl : i = m := by omega
      by_cases hl16 : 16 < L.length
      · have l16 : (16 : Int) < (L.length : Int) := Int.ofNat_lt.2 hl16
        have i1 : (i : Int) < (L.length : Int) := by have := HMM.out; omega
        have i16 : ¬ (i : Int) < 16 := by have := HMM.out; omega
        rw [if_pos hl16] at HD
        go_wp2_with fail
        go_ret
        refine ⟨?_, HI.out⟩
        rw [HD.out, ← bcat, ← bcat, HS.out]
        rfl
      · have l16 : ¬ (16 : Int) < (L.length : Int) := by omega
        have i1 : ¬ (i : Int) < (L.length : Int) := by have := HMM.out; omega
        rw [if_neg hl16] at HD
        go_wp2_with fail
        go_ret
        refine ⟨?_, HI.out⟩
        rw [HD.out, List.append_nil, ← bcat, HS.out]
        rfl
  · have HDP : Hid (dp = (d : Int) + 1) := hdd
    clear hdd
    go_enter Tryd.func6, Tryd.ntmps6
    go_wp2_with (first
      | (go_at_call 12; refine (dV _).mono ?_; rintro z1 w1 ⟨rfl, hb1⟩; have HB2 : Hid (Below w.heap.size w w1) := HB1.out.trans (hb1.mono HB1.out.size); obtain ⟨⟨⟨y0, -⟩, ⟨y1, -⟩⟩, y2, -⟩ := HM.out.below hb1 HSZ.out; have y3 := HCL.out _ HB2.out; clear hb1 x0 x1 x2)
      | fail)
    obtain ⟨m, hm⟩ : ∃ m : Nat, min L.length 16 = m := ⟨_, rfl⟩
    have hmL : m ≤ L.length ∧ m ≤ 16 := by omega
    rw [hm] at HD
    have HMM : Hid (min L.length 16 = m) := hm
    have hdx : decide (Ls.length ≤ x) = false := by simp; omega
    have hq1 : decide (dp < 1) = false := by simp; omega
    have hq4 : decide (4 < dp) = false := by simp; omega
    simp only [hdx]
    try simp only [hq1]
    try simp only [hq4]
    try simp only [Bool.or_self]
    clear hm y0 y1 y2 y3 hxl hx0 hdx hq1 hq4 h1 h4
    go_loopw [9, 10] (fun vs vi wr => ∃ i : Nat, i ≤ m ∧ vs = .string ⟨([91] ++ jp (dpS Ls d) L i).toArray⟩ ∧ vi = .int .i64 (i : Int) ∧ Hid (Below w.heap.size w wr)) (fun _ vi _ => m - (intOf vi).toNat)
    case atStart => exact ⟨0, Nat.zero_le _, rfl, rfl, HB2⟩
    case round =>
      obtain ⟨i, hi, rfl, rfl, HI⟩ := hrel
      have i0 : (0 : Int) ≤ (i : Int) := Int.natCast_nonneg _
      obtain ⟨S, hS⟩ : ∃ S, (⟨([91] ++ jp (dpS Ls d) L i).toArray⟩ : ByteArray) = S := ⟨_, rfl⟩
      have hSz : S.size ≤ 3000000000 := by
        rw [← hS, arr_size]
        have := HLN.out i (by omega)
        simp only [List.length_append, List.length_cons, List.length_nil]
        omega
      have HS : Hid ((⟨([91] ++ jp (dpS Ls d) L i).toArray⟩ : ByteArray) = S) := hS
      rw [hS]
      clear hS
      by_cases hlt : i < m
      · have i1 : (i : Int) < (L.length : Int) := by omega
        have i16 : (i : Int) < 16 := by omega
        obtain ⟨bb, rr, rfl, hvi, c0, c1, c2⟩ := HE.out wr HI.out i (by omega)
        have HG : Hid (L.getD i (0, 0, e0) = L[i]'(by omega)) := by show L.getD i (0, 0, e0) = _; rw [List.getD_eq_getElem?_getD, List.getElem?_eq_getElem (by omega)]; rfl
        obtain ⟨⟨vk, vn, vs⟩, hvv⟩ : ∃ x, L[i]'(by omega) = x := ⟨_, rfl⟩
        rw [hvv] at hvi c0 c1 c2 HG
        obtain ⟨Z, hZ⟩ : ∃ Z, (⟨(dpS Ls d (vk, vn, vs)).toArray⟩ : ByteArray) = Z := ⟨_, rfl⟩
        have hZz : Z.size ≤ 80000000 := by rw [← hZ, arr_size]; exact HDL.out _ hvi
        have dS : ∀ W, Below w.heap.size w W → Calls Tryd.prog 6 #[.agg #[.int .i64 vk, .int .i64 vn, .string vs], .slice (some ⟨g, o, none⟩) Ls.length cq, .int .i64 (d : Int)] W fun e w' => e = .returned (.string Z) ∧ Below W.heap.size W w' := fun W hb => by
          rw [← hZ]
          exact HIH.out (v := (vk, vn, vs)) hb hvi
        have HZ : Hid ((⟨(dpS Ls d (vk, vn, vs)).toArray⟩ : ByteArray) = Z) := hZ
        have hii : IntKind.i64.wrap (dp - 1) = (d : Int) := by
          have := HDP.out
          have := HDD.out
          rw [IntKind.wrap_i64]
          omega
        clear hvv hvi hZ
        by_cases hi0 : 0 < i
        · have i2 : (0 : Int) < (i : Int) := Int.ofNat_lt.2 hi0
          go_wp2_with fail
          refine (dS _ HI.out).mono ?_
          rintro z4 w4 ⟨rfl, hb4⟩
          have HB4 : Hid (Below w.heap.size w w4) := HI.out.trans (hb4.mono HI.out.size)
          clear hb4
          go_wp2_with fail
          have e : S ++ (⟨#[44, 32]⟩ : ByteArray) ++ Z = ⟨([91] ++ jp (dpS Ls d) L (i + 1)).toArray⟩ := by
            rw [← HS.out, ← HZ.out, show (⟨#[44, 32]⟩ : ByteArray) = ⟨([44, 32] : List UInt8).toArray⟩ from rfl, bcat, bcat, jp, if_pos hi0, HG.out]
            simp
          exact ⟨⟨i + 1, hlt, by rw [← e], by push_cast; rfl, HB4⟩, by show m - ((i : Int) + 1).toNat < m - (i : Int).toNat; omega⟩
        · have i2 : ¬ (0 : Int) < (i : Int) := by omega
          go_wp2_with fail
          refine (dS _ HI.out).mono ?_
          rintro z4 w4 ⟨rfl, hb4⟩
          have HB4 : Hid (Below w.heap.size w w4) := HI.out.trans (hb4.mono HI.out.size)
          clear hb4
          go_wp2_with fail
          have e : S ++ Z = ⟨([91] ++ jp (dpS Ls d) L (i + 1)).toArray⟩ := by
            rw [← HS.out, ← HZ.out, bcat, jp, if_neg hi0, HG.out]
            simp
          exact ⟨⟨i + 1, hlt, by rw [← e], by push_cast; rfl, HB4⟩, by show m - ((i : Int) + 1).toNat < m - (i : Int).toNat; omega⟩
      obtain rfl : i = m := by omega
      by_cases hl16 : 16 < L.length
      · have l16 : (16 : Int) < (L.length : Int) := Int.ofNat_lt.2 hl16
        have i1 : (i : Int) < (L.length : Int) := by have := HMM.out; omega
        have i16 : ¬ (i : Int) < 16 := by have := HMM.out; omega
        rw [if_pos hl16] at HD
        go_wp2_with fail
        go_ret
        refine ⟨?_, HI.out⟩
        rw [HD.out, ← bcat, ← bcat, HS.out]
        rfl
      · have l16 : ¬ (16 : Int) < (L.length : Int) := by omega
        have i1 : ¬ (i : Int) < (L.length : Int) := by have := HMM.out; omega
        rw [if_neg hl16] at HD
        go_wp2_with fail
        go_ret
        refine ⟨?_, HI.out⟩
        rw [HD.out, List.append_nil, ← bcat, HS.out]
        rfl
theorem dpN_nat {d : Nat} (h : d ≤ 4) : dpN (d : Int) = d := by
  unfold dpN
  split
  · omega
  · rw [if_neg (by omega), Int.toNat_natCast]
theorem dpN_zero {dp : Int} (h : dpN dp = 0) : dp < 1 := by
  unfold dpN at h
  split at h
  · assumption
  · split at h <;> omega
/-- The reference's Deep answers the same. -/
theorem rdeep_any {q : Option Addr} {cq : Nat} {Ls : List (List V)} : ∀ (d : Nat), d ≤ 4 → ∀ {dp : Int} {v : V} {w : World}, dpN dp = d → ArrAt w w.heap.size q Ls → Tab10 w → vIn v → Calls Tryd.prog 6 #[.agg #[.int .i64 v.1, .int .i64 v.2.1, .string v.2.2], .slice q Ls.length cq, .int .i64 dp] w fun e w' => e = .returned (.string ⟨(dpS Ls d v).toArray⟩) ∧ Below w.heap.size w w'
  | 0, _, dp, v, w, hd, _, ht, hv => rdeep_plain ht hv (.inl (dpN_zero hd))
  | d + 1, hd4, dp, v, w, hd, hA, ht, hv => by
    cases hh : hasS Ls.length v with
    | true =>
      refine rdeep_deep (d := d) ?_ (by omega) (fun {v w} hA ht hv => rdeep_any d (by omega) (dpN_nat (by omega)) hA ht hv) hA ht hv hh
      unfold dpN at hd
      split at hd
      · omega
      · split at hd <;> omega
    | false =>
      have e : dpS Ls (d + 1) v = shL v := by
        rw [dpS, hh]
        rfl
      rw [e]
      exact rdeep_plain ht hv (.inr hh)
end Go.Proofs.YtljhobjgofhldaaDoor
