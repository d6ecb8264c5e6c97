import Derived.Test.YtdcioemjmmhbhaaDoorRLd
import Derived.Test.YtdcioemjmmhbhaaDoorRdR
import Derived.Test.YtdcioemjmmhbhaaDoorSeatA
namespace Go.Proofs.YtdcioemjmmhbhaaDoor
open Go.RowKit

theorem RefOf.limC {w : World} {p lim N : Nat} {A : Hp} {F : Nat → Prop} (h : RefOf w p lim A N F) : w.cell? ⟨p, 0, none⟩ = some (.int .i64 (lim : Int)) := by
  obtain ⟨Md, Ps, mv, pv, h1, h2, h3⟩ := h
  exact h1.c0
theorem RefOf.own {w : World} {p lim N : Nat} {A : Hp} {F : Nat → Prop} (h : RefOf w p lim A N F) : F p := by
  obtain ⟨Md, Ps, mv, pv, h1, h2, h3⟩ := h
  exact h1.fp

set_option maxRecDepth 100000 in
set_option maxHeartbeats 4000000 in
theorem cellsLoads_any (w : World) (l : Int) (b : ByteArray) (hb : b.size ≤ 281474976710656) (hz : Zt w) :
    Calls Tryd.prog 6 #[.agg #[.int .i64 l, .string b]] w fun e w' => e = .returned (.bool true) ∧ Below w.heap.size w w' := by
  have B0 : Below w.heap.size w (w.alloc (.cells #[.int .i64 l, .string b] 61)) := (Below.refl _ w).alloc (Nat.le_refl _) _
  have bx := Box2.new w (.int .i64 l) (.string b) 61
  have hzX0 : w.heap.size < (w.alloc (.cells #[.int .i64 l, .string b] 61)).heap.size := by simp
  go_enter Tryd.func6, Tryd.ntmps6
  go_upto_region 1 with fail
  generalize w.alloc (.cells #[.int .i64 l, .string b] 61) = X at B0 bx hzX0 ⊢
  have hzX : Zt X := hz.same (B0.block 0 hz.pos)
  have l0 := bx.1.1
  have l1 := bx.2.1
  by_cases hg : ∃ A, Good l b A
  case neg =>
    have hld := load_no X l b hb (fun A hA => hg ⟨A, hA⟩) hzX
    go_wp2_with fail
    refine hld.mono ?_
    rintro e w1 ⟨rfl, hb1⟩
    have l2 := (bx.below hb1 hzX0).1.1
    have l3 := (bx.below hb1 hzX0).2.1
    have hrl := rload_any w1 l b hb
    clear l0 l1 hld
    go_wp2_with fail
    refine hrl.mono ?_
    rintro e w2 hR
    rcases hR with ⟨rfl, hb2, -⟩ | ⟨rfl, hb2, A', F', -, -, hG, -⟩
    · have HB : Hid (Below w.heap.size w w2) := below2 (below2 B0 hb1) hb2
      clear l2 l3 hrl
      go_wp2
      exact bodyPost_ret (v := .bool true) (by simp [results, Tryd.results6, go_sem]) rfl ⟨rfl, HB.out⟩
    · exact absurd ⟨A', hG⟩ hg
  obtain ⟨A, hA⟩ := hg
  have hld := load_any X l A hA.2.1 hA.1 hzX
  rw [← hA.2.2] at hld
  go_wp2_with fail
  refine hld.mono ?_
  rintro e w1 ⟨rfl, hq1⟩
  obtain ⟨FH, h1, hF1, hb1⟩ := hq1.out
  have l2 := (bx.below hb1 hzX0).1.1
  have l3 := (bx.below hb1 hzX0).2.1
  have hrl := rload_any w1 l b hb
  clear l0 l1 hld hq1
  go_wp2_with fail
  refine hrl.mono ?_
  rintro e w2 hR
  rcases hR with ⟨rfl, hb2, hn⟩ | ⟨rfl, hb2, A', FM, hM, hFM, -, hu⟩
  · exact absurd hA (hn A)
  obtain rfl := hu A hA
  have h2 := h1.next hb2
  have bx2 := (bx.below hb1 hzX0).below hb2 (by have := hb1.size; omega)
  have hzY : Zt w2 := hzX.same ((hb2.block 0 (by have := hzX.pos; have := hb1.size; omega)).trans (hb1.block 0 hzX.pos))
  have HBW : Hid (Below w.heap.size w w2) := below2 (below2 B0 hb1) hb2
  have hbx2 : w.heap.size < w2.heap.size := by have := hb1.size; have := hb2.size; omega
  have HSV : Hid (b = str (saveS A')) := hA.2.2
  have hF0 : ¬ FH 0 := fun e => by have := hF1 0 e; have := hzX.pos; omega
  have HFH : Hid (∀ x, FH x → x < w1.heap.size) := h1.flt
  have hms : w1.heap.size < w2.heap.size := hM.flt _ hM.own
  have hln := h2.lensP
  have l5 := bx2.2.1
  have hus := hM.used
  have hlim := limS_le l
  clear hrl l2 l3 hA hu h1 hzX hb1 B0
  generalize limS l = lim at *
  generalize X.heap.size = hp at *
  generalize w1.heap.size = mp at *
  generalize w2 = Y at *
  go_upto_region 7 with fail
  have H1 : Hid (∀ W, Below Y.heap.size Y W → Calls Tryd.prog 16 #[.pointer (some ⟨hp, 0, none⟩)] W fun e w' => ∃ v, e = .returned v ∧ (v = .string b ∧ Below Y.heap.size Y w')) := fun W hW => by
    rw [HSV.out]
    exact (save_any (h2.next hW)).mono fun e w' ⟨e1, e2⟩ => ⟨_, e1, rfl, hW.trans (e2.mono hW.size)⟩
  have H2 : Hid (∀ W, Below Y.heap.size Y W → Calls Tryd.prog 19 #[.pointer (some ⟨hp, 0, none⟩)] W fun e w' => ∃ v, e = .returned v ∧ (v = .int .i64 ((usedS A' : Nat) : Int) ∧ Below Y.heap.size Y w')) := fun W hW =>
    (used_any (h2.next hW)).mono fun e w' ⟨e1, e2⟩ => ⟨_, e1, rfl, by rw [e2]; exact hW⟩
  have H3 : Hid (∀ W, Below Y.heap.size Y W → Calls Tryd.prog 25 #[.pointer (some ⟨mp, 0, none⟩)] W fun e w' => ∃ v, e = .returned v ∧ (v = .int .i64 ((usedS A' : Nat) : Int) ∧ Below Y.heap.size Y w')) := fun W hW =>
    (rusedA_any (hM.next hW)).mono fun e w' ⟨e1, e2⟩ => ⟨_, e1, rfl, by rw [e2]; exact hW⟩
  have H4 : Hid (∀ W, Below Y.heap.size Y W → Calls Tryd.prog 21 #[.pointer (some ⟨hp, 0, none⟩)] W fun e w' => ∃ v, e = .returned v ∧ ∃ g, v = .slice (some ⟨g, 0, none⟩) (A'.length + 1) (A'.length + 1) ∧ Hid (ListsAt w' g (lsA A')) ∧ Below Y.heap.size Y w') := fun W hW => by
    refine (arrays_any (h2.next hW)).mono fun e w' ⟨e1, e2, e3⟩ => ⟨_, e1, _, rfl, ?_, hW.trans (e3.mono hW.size)⟩
    obtain ⟨vs, ha⟩ := e2.out
    rw [← lsA_len] at ha
    exact ha.lists
  have H5 : Hid (∀ W, Below Y.heap.size Y W → Calls Tryd.prog 26 #[.pointer (some ⟨mp, 0, none⟩)] W fun e w' => ∃ v, e = .returned v ∧ ∃ g c, v = .slice (some ⟨g, 0, none⟩) (A'.length + 1) c ∧ Hid (ListsAt w' g (lsA A')) ∧ Below W.heap.size W w') := fun W hW => by
    exact (rarrays_any (hM.next hW) (by omega)).mono fun e w' ⟨g, c, e1, e2, e3⟩ => ⟨_, e1, g, c, rfl, e2, e3⟩
  have H6 : Hid (∀ W (g1 g2 c1 c2 : Nat), Below Y.heap.size Y W → Hid (ListsAt W g1 (lsA A')) → Hid (ListsAt W g2 (lsA A')) → Calls Tryd.prog 22 #[.slice (some ⟨g1, 0, none⟩) (A'.length + 1) c1, .slice (some ⟨g2, 0, none⟩) (A'.length + 1) c2] W fun e w' => ∃ v, e = .returned v ∧ (v = .bool true ∧ Below Y.heap.size Y w')) := fun W g1 g2 c1 c2 hW q1 q2 => by
    have := same_any (c1 := c1) (c2 := c2) q1.out q2.out (by rw [lsA_len]; omega) hln.2
    rw [lsA_len] at this
    exact this.mono fun e w' ⟨e1, e2⟩ => ⟨_, e1, rfl, hW.trans (e2.mono hW.size)⟩
  have SV : Hid (∀ W, Below Y.heap.size Y W → W.cell? ⟨w.heap.size, 1, none⟩ = some (.string b) ∧ Below Y.heap.size Y W) := fun W hW => by
    have e1 := hW.block w.heap.size hbx2
    exact ⟨(World.cell?_of_block (a := ⟨w.heap.size, 1, none⟩) e1).trans l5, hW⟩
  have hcd : Below Y.heap.size Y Y.drew := (Below.refl _ _).drew
  have HX : Hid (HeapOf Y hp lim A' FH ∧ RefOf Y mp lim A' 100000 FM ∧ Zt Y) := ⟨h2, hM, hzY⟩
  have cb : (b.toList != b.toList) = false := by simp
  have cb' : (b.toList == b.toList) = true := by simp
  clear hln h2 hM hzY bx bx2 HSV hz hb2
  go_wp2_with fail
  go_region_held3 (fun w' => w'.cell? ⟨w.heap.size, 1, none⟩ = some (.string b) ∧ Below Y.heap.size Y w') (exact SV.out _ (by assumption))
    (first
    | (go_at_call 16; refine (H1.out _ hcd).mono ?_; rintro e w3 ⟨v3', rfl, rfl, hcd'⟩; replace hcd := hcd'; clear hcd')
    | (go_at_call 19; refine (H2.out _ hcd).mono ?_; rintro e w4 ⟨v4', rfl, rfl, hcd'⟩; replace hcd := hcd'; clear hcd')
    | (go_at_call 25; refine (H3.out _ hcd).mono ?_; rintro e w5 ⟨v5', rfl, rfl, hcd'⟩; replace hcd := hcd'; clear hcd')
    | (go_at_call 21; refine (H4.out _ hcd).mono ?_; rintro e w6 ⟨v6', rfl, g1, rfl, hl1, hcd'⟩; replace hcd := hcd'; clear hcd')
    | (go_at_call 26; refine (H5.out _ hcd).mono ?_; rintro e w7 ⟨v7', rfl, g2, cc2, rfl, hl2, hcd'⟩; replace hl1 : Hid (ListsAt w7 g1 (lsA A')) := hl1.out.next hcd'; replace hcd := hcd.trans (hcd'.mono hcd.size); clear hcd')
    | (go_at_call 22; refine (H6.out _ _ _ _ _ hcd hl1 hl2).mono ?_; rintro e w8 ⟨v8', rfl, rfl, hcd'⟩; replace hcd := hcd'; clear hcd'))
  have HX2 : Hid (HeapOf w8 hp lim A' FH ∧ RefOf w8 mp lim A' 100000 FM ∧ Zt w8) := ⟨HX.out.1.next hcd, HX.out.2.1.next hcd, HX.out.2.2.same (hcd.block 0 HX.out.2.2.pos)⟩
  have HBW2 : Hid (Below w.heap.size w w8) := below2 HBW.out hcd
  have hms8 : mp < w8.heap.size := by have := hcd.size; omega
  clear SV H1 H2 H3 H4 H5 H6 hl1 hl2 hcd HX HBW cb cb' l5
  generalize w8 = Z at HX2 HBW2 hms8 ⊢
  obtain ⟨room, hroom⟩ : ∃ r, lim - usedS A' = r := ⟨_, rfl⟩
  have hr1 : IntKind.i64.wrap ((lim : Int) - ((usedS A' : Nat) : Int)) = (room : Int) := by rw [IntKind.wrap_i64]; omega
  have hr2 : IntKind.i64.wrap (room : Int) = (room : Int) := by rw [IntKind.wrap_i64]; omega
  have hcm := HX2.out.2.1.limC
  have H3 : Hid (∀ W, Below Z.heap.size Z W → Calls Tryd.prog 25 #[.pointer (some ⟨mp, 0, none⟩)] W fun e w' => ∃ v, e = .returned v ∧ (v = .int .i64 ((usedS A' : Nat) : Int) ∧ Below Z.heap.size Z w')) := fun W hW =>
    (rusedA_any (HX2.out.2.1.next hW)).mono fun e w' ⟨e1, e2⟩ => ⟨_, e1, rfl, by rw [e2]; exact hW⟩
  have SV : Hid (∀ W, Below Z.heap.size Z W → W.cell? ⟨mp, 0, none⟩ = some (.int .i64 (lim : Int)) ∧ Below Z.heap.size Z W) := fun W hW =>
    ⟨(World.cell?_of_block (a := ⟨mp, 0, none⟩) (hW.block mp hms8)).trans hcm, hW⟩
  have hcd : Below Z.heap.size Z Z.drew := (Below.refl _ _).drew
  clear hcm
  have HM1 : Hid (makeH A' lim 1 (room : Int) = (A', zv, 4)) := by
    show makeH A' lim 1 (room : Int) = _
    unfold makeH
    rw [if_neg (by omega), if_neg (by omega), if_pos (by omega)]
  go_wp2_with fail
  go_region_held3 (fun w' => w'.cell? ⟨mp, 0, none⟩ = some (.int .i64 (lim : Int)) ∧ Below Z.heap.size Z w') (exact SV.out _ (by assumption))
    (first
    | (go_at_call 25; refine (H3.out _ hcd).mono ?_; rintro e w5 ⟨v5', rfl, rfl, hcd'⟩; replace hcd := hcd'; clear hcd'))
  have HX3 : Hid (HeapOf w5 hp lim A' FH ∧ RefOf w5 mp lim A' 100000 FM ∧ Zt w5) := ⟨HX2.out.1.next hcd, HX2.out.2.1.next hcd, HX2.out.2.2.same (hcd.block 0 HX2.out.2.2.pos)⟩
  have HBW3 : Hid (Below w.heap.size w w5) := below2 HBW2.out hcd
  have hmk := make_any HX3.out.1 HX3.out.2.2 hF0 1 (room : Int)
  rw [HM1.out] at hmk
  simp only at hmk
  rw [show (vc zv).toArray = #[.int .i64 0, .int .i64 0, .string e0] from rfl] at hmk
  clear SV H3 hcd HX2 HBW2
  go_wp2_with fail
  refine hmk.mono ?_
  rintro e w6 ⟨rfl, hq6⟩
  have HX4 : Hid (∃ F4, HeapOf w6 hp lim A' F4 ∧ RefOf w6 mp lim A' 100000 FM ∧ Zt w6 ∧ Below w.heap.size w w6 ∧ (∀ x, F4 x → w.heap.size ≤ x) ∧ (∀ x, F4 x → FM x → False) ∧ ¬ F4 0) := by
    obtain ⟨F4, q1, q2, q3⟩ := hq6.out
    have hd : ∀ x, FM x → ¬ FH x := fun x hx e => by have := hFM x hx; have := HFH.out x e; omega
    have hr := HX3.out.2.1.kept q2 hd
    refine ⟨F4, q1, hr, HX3.out.2.2.same (q2.block 0 HX3.out.2.2.pos hF0), HBW3.out.trans (q2.below (fun x hx => by have := hF1 x hx; omega) HBW3.out.size), fun x hx => ?_, fun x hx hy => ?_, fun e => ?_⟩
    · rcases q3 x hx with r | r
      · have := hF1 x r; omega
      · have := HBW3.out.size; have := HX3.out.2.1.flt _ HX3.out.2.1.own; omega
    · rcases q3 x hx with r | r
      · exact hd x hy r
      · have := HX3.out.2.1.flt x hy; omega
    · rcases q3 0 e with r | r
      · exact hF0 r
      · have := HX3.out.2.2.pos; omega
  clear hmk hq6 HX3 HBW3 HM1
  by_cases hr0 : room = 0
  · subst hr0
    have HB : Hid (∀ o, Below w.heap.size w (w6.alloc o)) := fun o => by
      obtain ⟨F4, -, -, -, q4, -⟩ := HX4.out
      exact q4.alloc q4.size o
    have HB2 : Hid (Below w.heap.size w w6) := by
      obtain ⟨F4, -, -, -, q4, -⟩ := HX4.out
      exact q4
    go_wp2
    exact bodyPost_ret (v := .bool true) (by simp [results, Tryd.results6, go_sem]) rfl ⟨rfl, by first | exact HB2.out | exact HB.out _⟩
  obtain ⟨rm, rfl⟩ : ∃ rm, room = rm + 1 := ⟨room - 1, by omega⟩
  have hr3 : (((rm + 1 : Nat) : Int) == 0) = false := by simp; omega
  have hr4 : IntKind.i64.wrap (((rm + 1 : Nat) : Int) - 1) = (rm : Int) := by rw [IntKind.wrap_i64]; omega
  have HM2 : Hid (makeH A' lim 1 (rm : Int) = (A' ++ [(1, List.replicate rm (1, 0, e0))], (4, (A'.length : Int) + 1, e0), 0)) := by
    show makeH A' lim 1 (rm : Int) = _
    unfold makeH
    rw [if_neg (by omega), if_neg (by omega), if_neg (by omega), Int.toNat_natCast]
  have HU2 : Hid (usedS (A' ++ [(1, List.replicate rm (1, 0, e0))]) = lim) := by
    show usedS (A' ++ [(1, List.replicate rm (1, 0, e0))]) = lim
    rw [used_app]
    simp [usedS]
    omega
  have HX5 : Hid (∃ F4, HeapOf (w6.alloc (.cells #[.int .i64 0, .int .i64 0, .string e0] 37)) hp lim A' F4 ∧ RefOf (w6.alloc (.cells #[.int .i64 0, .int .i64 0, .string e0] 37)) mp lim A' 100000 FM ∧ Zt (w6.alloc (.cells #[.int .i64 0, .int .i64 0, .string e0] 37)) ∧ Below w.heap.size w (w6.alloc (.cells #[.int .i64 0, .int .i64 0, .string e0] 37)) ∧ (∀ x, F4 x → w.heap.size ≤ x) ∧ (∀ x, F4 x → FM x → False) ∧ ¬ F4 0) := by
    obtain ⟨F4, q1, q2, q3, q4, q5⟩ := HX4.out
    have nb : Below w6.heap.size w6 (w6.alloc (.cells #[.int .i64 0, .int .i64 0, .string e0] 37)) := (Below.refl _ w6).alloc (Nat.le_refl _) _
    exact ⟨F4, q1.next nb, q2.next nb, q3.same (nb.block 0 q3.pos), below2 q4 nb, q5⟩
  clear HX4
  go_wp2_with fail
  generalize w6.alloc (.cells #[.int .i64 0, .int .i64 0, .string e0] 37) = U at HX5 ⊢
  obtain ⟨F4, u1, u2, u3, u4, u5, u6, u7⟩ := HX5.out
  have hmk := make_any u1 u3 u7 1 (rm : Int)
  rw [HM2.out] at hmk
  simp only at hmk
  rw [show (vc (4, (A'.length : Int) + 1, e0)).toArray = #[.int .i64 4, .int .i64 ((A'.length : Int) + 1), .string e0] from rfl] at hmk
  refine hmk.mono ?_
  rintro e w7 ⟨rfl, hq7⟩
  have HX6 : Hid (∃ F5, HeapOf (w7.alloc (.cells #[.int .i64 4, .int .i64 ((A'.length : Int) + 1), .string e0] 37)) hp lim (A' ++ [(1, List.replicate rm (1, 0, e0))]) F5 ∧ RefOf (w7.alloc (.cells #[.int .i64 4, .int .i64 ((A'.length : Int) + 1), .string e0] 37)) mp lim A' 100000 FM ∧ Below w.heap.size w (w7.alloc (.cells #[.int .i64 4, .int .i64 ((A'.length : Int) + 1), .string e0] 37))) := by
    obtain ⟨F5, q1, q2, q3⟩ := hq7.out
    have nb : Below w7.heap.size w7 (w7.alloc (.cells #[.int .i64 4, .int .i64 ((A'.length : Int) + 1), .string e0] 37)) := (Below.refl _ w7).alloc (Nat.le_refl _) _
    exact ⟨F5, q1.next nb, (u2.kept q2 (fun x hx e => u6 x e hx)).next nb, below2 (u4.trans (q2.below (fun x hx => u5 x hx) u4.size)) nb⟩
  clear hmk hq7 HX5 HM2 u1 u2 u3 u4 u5 u6 u7
  go_upto_region 16 with fail
  generalize w7.alloc (.cells #[.int .i64 4, .int .i64 ((A'.length : Int) + 1), .string e0] 37) = Z2 at HX6 ⊢
  obtain ⟨F5, u1, u2, u3⟩ := HX6.out
  have hcm := u2.limC
  have hmz := u2.flt _ u2.own
  have H2 : Hid (∀ W, Below Z2.heap.size Z2 W → Calls Tryd.prog 19 #[.pointer (some ⟨hp, 0, none⟩)] W fun e w' => ∃ v, e = .returned v ∧ (v = .int .i64 (lim : Int) ∧ Below Z2.heap.size Z2 w')) := fun W hW => by
    have := used_any (u1.next hW)
    rw [HU2.out] at this
    exact this.mono fun e w' ⟨e1, e2⟩ => ⟨_, e1, rfl, by rw [e2]; exact hW⟩
  have SV : Hid (∀ W, Below Z2.heap.size Z2 W → W.cell? ⟨mp, 0, none⟩ = some (.int .i64 (lim : Int)) ∧ Below Z2.heap.size Z2 W) := fun W hW =>
    ⟨(World.cell?_of_block (a := ⟨mp, 0, none⟩) (hW.block mp hmz)).trans hcm, hW⟩
  have hcd : Below Z2.heap.size Z2 Z2.drew := (Below.refl _ _).drew
  have HB2 : Hid (Below w.heap.size w Z2) := u3
  clear hcm HX6 u1 u2 u3 HU2
  go_wp2_with fail
  go_region_held3 (fun w' => w'.cell? ⟨mp, 0, none⟩ = some (.int .i64 (lim : Int)) ∧ Below Z2.heap.size Z2 w') (exact SV.out _ (by assumption))
    (first
    | (go_at_call 19; refine (H2.out _ hcd).mono ?_; rintro e w5 ⟨v5', rfl, rfl, hcd'⟩; replace hcd := hcd'; clear hcd'))
  all_goals
    have HB3 : Hid (Below w.heap.size w w5) := below2 HB2.out hcd
    clear SV H2 hcd HB2
    go_wp2
    exact bodyPost_ret (v := .bool true) (by simp [results, Tryd.results6, go_sem]) rfl ⟨rfl, HB3.out⟩
end Go.Proofs.YtdcioemjmmhbhaaDoor
