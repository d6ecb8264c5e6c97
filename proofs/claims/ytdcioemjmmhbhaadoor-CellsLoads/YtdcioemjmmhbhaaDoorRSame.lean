import Derived.Test.YtdcioemjmmhbhaaDoorStands
namespace Go.Proofs.YtdcioemjmmhbhaaDoor
open Go.RowKit

/-- Lists of values in memory: a row of slices at block g. -/
def ListsAt (w : World) (g : Nat) (Ls : List (List V)) : Prop := ∀ n (hn : n < Ls.length), ∃ q c, w.cell? ⟨g, n, none⟩ = some (.slice q Ls[n].length c) ∧ (0 < Ls[n].length → ∃ b, q = some ⟨b, 0, none⟩ ∧ w.rangeAt b 0 (vcs Ls[n]))
theorem ListsAt.get {w Y : World} {g : Nat} {Ls : List (List V)} (h : ListsAt w g Ls) (hY : Below w.heap.size w Y) (n : Nat) (hn : n < Ls.length) : ∃ q c, Y.cell? ⟨g, n, none⟩ = some (.slice q Ls[n].length c) ∧
    ∀ i (hi : i < Ls[n].length), ∃ b, q = some ⟨b, 0, none⟩ ∧ Y.cell? ⟨b, i * 3, none⟩ = some (.int .i64 Ls[n][i].1) ∧ Y.cell? ⟨b, i * 3 + 1, none⟩ = some (.int .i64 Ls[n][i].2.1) ∧ Y.cell? ⟨b, i * 3 + 2, none⟩ = some (.string Ls[n][i].2.2) := by
  obtain ⟨q, c, h1, h2⟩ := h n hn
  refine ⟨q, c, (hY.cell (p := ⟨g, n, none⟩) (block_lt_of_cell h1)).trans h1, fun i hi => ?_⟩
  obtain ⟨b, e, hr⟩ := h2 (by omega)
  have h3 := vcs_get hr i hi
  rw [Nat.zero_add] at h3
  have k := fun j v (hv : (vc Ls[n][i])[j]? = some v) => (hY.cell (p := ⟨b, i * 3 + j, none⟩) (block_lt_of_cell (h3 j v hv))).trans (h3 j v hv)
  exact ⟨b, e, k 0 _ rfl, k 1 _ rfl, k 2 _ rfl⟩

set_option maxRecDepth 100000 in
set_option maxHeartbeats 4000000 in
theorem same_any {w : World} {g1 g2 c1 c2 : Nat} {Ls : List (List V)} (h1 : ListsAt w g1 Ls) (h2 : ListsAt w g2 Ls) (hl : Ls.length ≤ 100001) (hel : ∀ L ∈ Ls, L.length ≤ 100000) :
    Calls Tryd.prog 22 #[.slice (some ⟨g1, 0, none⟩) Ls.length c1, .slice (some ⟨g2, 0, none⟩) Ls.length c2] w fun e w' => e = .returned (.bool true) ∧ Below w.heap.size w w' := by
  have H1 : Hid (∀ Y, Below w.heap.size w Y → ∀ n (hn : n < Ls.length), ∃ q c, Y.cell? ⟨g1, n, none⟩ = some (.slice q Ls[n].length c) ∧ ∀ i (hi : i < Ls[n].length), ∃ b, q = some ⟨b, 0, none⟩ ∧ Y.cell? ⟨b, i * 3, none⟩ = some (.int .i64 Ls[n][i].1) ∧ Y.cell? ⟨b, i * 3 + 1, none⟩ = some (.int .i64 Ls[n][i].2.1) ∧ Y.cell? ⟨b, i * 3 + 2, none⟩ = some (.string Ls[n][i].2.2)) := fun Y hY n hn => h1.get hY n hn
  have H2 : Hid (∀ Y, Below w.heap.size w Y → ∀ n (hn : n < Ls.length), ∃ q c, Y.cell? ⟨g2, n, none⟩ = some (.slice q Ls[n].length c) ∧ ∀ i (hi : i < Ls[n].length), ∃ b, q = some ⟨b, 0, none⟩ ∧ Y.cell? ⟨b, i * 3, none⟩ = some (.int .i64 Ls[n][i].1) ∧ Y.cell? ⟨b, i * 3 + 1, none⟩ = some (.int .i64 Ls[n][i].2.1) ∧ Y.cell? ⟨b, i * 3 + 2, none⟩ = some (.string Ls[n][i].2.2)) := fun Y hY n hn => h2.get hY n hn
  have ne : ((Ls.length : Int) != (Ls.length : Int)) = false := by simp
  clear h1 h2
  go_enter Tryd.func22, Tryd.ntmps22
  go_wp2_with fail
  go_loopw [5] (fun v wr => ∃ n : Nat, n ≤ Ls.length ∧ v = .int .i64 (n : Int) ∧ Hid (Below w.heap.size w wr)) (fun v _ => Ls.length - (intOf v).toNat)
  case atStart => exact ⟨0, Nat.zero_le _, rfl, Below.refl _ _⟩
  case round =>
    obtain ⟨n, hn, rfl, hB⟩ := hrel
    clear ne
    by_cases hlt : n < Ls.length
    case neg =>
      obtain rfl : n = Ls.length := by omega
      go_wp2
      first | (change bodyPost Tryd.prog Tryd.f22 _ Exit.ret _ _) | (simp only [Exit.noGoto])
      go_ret
      exact ⟨rfl, hB.out⟩
    have n0 : (0 : Int) ≤ (n : Int) := Int.natCast_nonneg _
    have n1 : (n : Int) < (Ls.length : Int) := Int.ofNat_lt.2 hlt
    have hLn := hel Ls[n] (List.getElem_mem hlt)
    have J1 : Hid (∃ q c, ∀ Y, Below wr.heap.size wr Y → Y.cell? ⟨g1, n, none⟩ = some (.slice q Ls[n].length c) ∧ ∀ i (hi : i < Ls[n].length), ∃ b, q = some ⟨b, 0, none⟩ ∧ Y.cell? ⟨b, i * 3, none⟩ = some (.int .i64 Ls[n][i].1) ∧ Y.cell? ⟨b, i * 3 + 1, none⟩ = some (.int .i64 Ls[n][i].2.1) ∧ Y.cell? ⟨b, i * 3 + 2, none⟩ = some (.string Ls[n][i].2.2)) := by
      obtain ⟨q, c, a1, -⟩ := H1.out wr hB.out n hlt
      refine ⟨q, c, fun Y hY => ?_⟩
      obtain ⟨q', c', a2, a3⟩ := H1.out Y (below2 hB.out hY) n hlt
      have a4 := (hY.cell (p := ⟨g1, n, none⟩) (block_lt_of_cell a1)).trans a1
      rw [a2] at a4
      cases a4
      exact ⟨a2, a3⟩
    have J2 : Hid (∃ q c, ∀ Y, Below wr.heap.size wr Y → Y.cell? ⟨g2, n, none⟩ = some (.slice q Ls[n].length c) ∧ ∀ i (hi : i < Ls[n].length), ∃ b, q = some ⟨b, 0, none⟩ ∧ Y.cell? ⟨b, i * 3, none⟩ = some (.int .i64 Ls[n][i].1) ∧ Y.cell? ⟨b, i * 3 + 1, none⟩ = some (.int .i64 Ls[n][i].2.1) ∧ Y.cell? ⟨b, i * 3 + 2, none⟩ = some (.string Ls[n][i].2.2)) := by
      obtain ⟨q, c, a1, -⟩ := H2.out wr hB.out n hlt
      refine ⟨q, c, fun Y hY => ?_⟩
      obtain ⟨q', c', a2, a3⟩ := H2.out Y (below2 hB.out hY) n hlt
      have a4 := (hY.cell (p := ⟨g2, n, none⟩) (block_lt_of_cell a1)).trans a1
      rw [a2] at a4
      cases a4
      exact ⟨a2, a3⟩
    obtain ⟨q1, d1, k1⟩ := J1.out
    obtain ⟨q2, d2, k2⟩ := J2.out
    have K1 : Hid (∀ Y, Below wr.heap.size wr Y → Y.cell? ⟨g1, n, none⟩ = some (.slice q1 Ls[n].length d1) ∧ ∀ i (hi : i < Ls[n].length), ∃ b, q1 = some ⟨b, 0, none⟩ ∧ Y.cell? ⟨b, i * 3, none⟩ = some (.int .i64 Ls[n][i].1) ∧ Y.cell? ⟨b, i * 3 + 1, none⟩ = some (.int .i64 Ls[n][i].2.1) ∧ Y.cell? ⟨b, i * 3 + 2, none⟩ = some (.string Ls[n][i].2.2)) := k1
    have K2 : Hid (∀ Y, Below wr.heap.size wr Y → Y.cell? ⟨g2, n, none⟩ = some (.slice q2 Ls[n].length d2) ∧ ∀ i (hi : i < Ls[n].length), ∃ b, q2 = some ⟨b, 0, none⟩ ∧ Y.cell? ⟨b, i * 3, none⟩ = some (.int .i64 Ls[n][i].1) ∧ Y.cell? ⟨b, i * 3 + 1, none⟩ = some (.int .i64 Ls[n][i].2.1) ∧ Y.cell? ⟨b, i * 3 + 2, none⟩ = some (.string Ls[n][i].2.2)) := k2
    clear J1 J2 k1 k2 H1 H2 hel
    generalize Ls[n] = L at K1 K2 hLn
    have y1 := cell_regrown (K1.out wr (Below.refl _ _)).1
    have y2 := cell_regrown (K2.out wr (Below.refl _ _)).1
    have nl : ((L.length : Int) != (L.length : Int)) = false := by simp
    go_wp2_with fail
    refine wp_region_quiet_below (by kernel_rfl) (by kernel_rfl) ?_
    repeat (first | go_big_quiet_step (first | fail) | quiet_step (first | fail))
    refine wpQuiet_nil ?_
    intro _ hw'
    obtain ⟨⟨dq, osq⟩, hw''⟩ := hw'
    subst hw''
    have hY := below_regrown wr dq osq
    change Exit.then _ _ Exit.normal _ (Sort.grow (redrawn wr dq) osq)
    generalize Sort.grow (redrawn wr dq) osq = X2 at hY ⊢
    have HB2 : Hid (Below wr.heap.size wr X2) := hY
    clear hY y1 y2 nl
    go_wp2_with fail
    go_loopw [6] (fun v wv => ∃ i : Nat, i ≤ L.length ∧ v = .int .i64 (i : Int) ∧ Hid (Below wr.heap.size wr wv)) (fun v _ => L.length - (intOf v).toNat)
    case atStart => exact ⟨0, Nat.zero_le _, rfl, HB2⟩
    case round =>
      obtain ⟨i, hi, rfl, hB6⟩ := hrel
      have z1 := (K1.out _ hB6.out).1
      by_cases hlt2 : i < L.length
      case neg =>
        obtain rfl : i = L.length := by omega
        have HBV := below2 hB.out hB6.out
        have HBV' : Hid (Below w.heap.size w wr) := HBV
        clear HBV
        go_wp2
        exact ⟨⟨n + 1, by omega, by first | rfl | (push_cast; rfl) | go_num, HBV'⟩, by simp [intOf]; omega⟩
      have i0 : (0 : Int) ≤ (i : Int) := Int.natCast_nonneg _
      have i1 : (i : Int) < (L.length : Int) := Int.ofNat_lt.2 hlt2
      go_wp2_with fail
      clear z1
      obtain ⟨z1, z3⟩ := K1.out _ hB6.out
      obtain ⟨z2, z4⟩ := K2.out _ hB6.out
      obtain ⟨b1, rfl, p0, p1, p2⟩ := z3 i hlt2
      obtain ⟨b2, rfl, r0, r1, r2⟩ := z4 i hlt2
      clear z3 z4
      generalize L[i] = vv at p0 p1 p2 r0 r1 r2
      obtain ⟨vk, vn, vs⟩ := vv
      simp only at p0 p1 p2 r0 r1 r2
      have y1 := cell_regrown z1
      have y2 := cell_regrown z2
      have y3 := cell_regrown p0
      have y4 := cell_regrown p1
      have y5 := cell_regrown p2
      have y6 := cell_regrown r0
      have y7 := cell_regrown r1
      have y8 := cell_regrown r2
      have nv := neqV vk vn vs vk vn vs
      rw [show (!((vk == vk && vn == vn) && vs.toList == vs.toList)) = false by simp] at nv
      clear z1 z2 p0 p1 p2 r0 r1 r2
      refine wp_region_quiet_below (by kernel_rfl) (by kernel_rfl) ?_
      repeat (first | go_big_quiet_step (first | fail) | quiet_step (first | fail))
      refine wpQuiet_nil ?_
      intro _ hw'
      obtain ⟨⟨dq, osq⟩, hw''⟩ := hw'
      subst hw''
      have hY := below_regrown wr dq osq
      change Exit.then _ _ Exit.normal _ (Sort.grow (redrawn wr dq) osq)
      generalize Sort.grow (redrawn wr dq) osq = Y at hY ⊢
      have hB7 := below2 hB6.out hY
      clear hY y1 y2 y3 y4 y5 y6 y7 y8 nv
      have hB8 : Hid _ := hB7
      clear hB7
      go_wp2
      exact ⟨⟨i + 1, by omega, by first | rfl | (push_cast; rfl) | go_num, hB8⟩, by simp [intOf]; omega⟩
end Go.Proofs.YtdcioemjmmhbhaaDoor
