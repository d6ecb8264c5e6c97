import Derived.Test.YtdcioemjmmhbhaaDoorRead
namespace Go.Proofs.YtdcioemjmmhbhaaDoor
open Go.RowKit

theorem half_start {w : World} {p lim : Nat} {A : Hp} {k : Int} {els : List V} {c : Nat} {F : Nat → Prop} (h : HeapC w p lim (A ++ [(k, List.replicate els.length (k, 0, e0))]) c F) :
    ∃ q g o vq vcp, Half w p lim A k els 0 c F q g o ∧ w.cell? ⟨p, 3, none⟩ = some (.slice (some ⟨vq, 0, none⟩) (A.length + 1) vcp) ∧ w.cell? ⟨vq, A.length * 2 + 1, none⟩ = some (.slice q els.length els.length) := by
  obtain ⟨As, rq, rn, rg, ro, av, h1, h2⟩ := h
  have hl : As.length = A.length + 1 := by rw [← abs_len, h1]; simp
  have hlt : A.length < As.length := by omega
  have hy : (absA As)[A.length]? = some (k, List.replicate els.length (k, 0, e0)) := by rw [h1]; simp
  have hyl : As[A.length].els.length = els.length := by
    unfold absA at hy
    rw [List.getElem?_map, List.getElem?_eq_getElem hlt] at hy
    have := congrArg Prod.snd (Option.some.inj hy)
    simp only at this
    rw [this, List.length_replicate]
  obtain ⟨vq, vcp, rfl, _, hr⟩ := own_slice h2.arrs
  obtain ⟨vg, rfl, hr1⟩ := hr (by omega)
  have e1' := hr1 (A.length * 2 + 1) (.slice As[A.length].q As[A.length].els.length As[A.length].els.length) ((flat_at ac 2 (fun _ => rfl) As A.length 1 hlt (by decide)).trans rfl)
  rw [Nat.zero_add, hyl] at e1'
  refine ⟨As[A.length].q, As[A.length].g, As[A.length].o, vg, vcp, ⟨⟨As, rq, rn, rg, ro, _, h2, hl, by rw [h1]; simp, As[A.length], List.getElem?_eq_getElem hlt, rfl, rfl, rfl⟩⟩, ?_, e1'⟩
  rw [h2.c3, hl]

set_option maxRecDepth 100000 in
set_option maxHeartbeats 4000000 in
theorem read_any {w : World} {p lim : Nat} {A : Hp} {c : Nat} {F : Nat → Prop} (h : HeapC w p lim A c F) (hz : Zt w) (hF0 : ¬ F 0) (rb : Nat) (hrb0 : rb ≠ 0) (hrF : ¬ F rb) (k : Int) (els : List V) (hk : 1 ≤ k ∧ k ≤ 4) (hle : usedS A + (els.length + 1) ≤ lim) (hlim : lim ≤ 100000)
    (hm : ∀ v ∈ els, mayS v k c = true ∧ inR v.2.1) (b : List UInt8) (hl : (arB (k, els) ++ b).length ≤ 9223372036854775807) (hr : Box2 w rb (.string (str (arB (k, els) ++ b))) (.bool false)) :
    Calls Tryd.prog 41 #[.pointer (some ⟨p, 0, none⟩), .pointer (some ⟨rb, 0, none⟩), .int .i64 (c : Int)] w fun e w' => e = .returned (.bool true) ∧ Hid (∃ F', HeapC w' p lim (A ++ [(k, els)]) c F' ∧ Box2 w' rb (.string (str b)) (.bool false) ∧ Kp (fun x => F x ∨ x = rb) w w' ∧ ∀ x, F' x → F x ∨ w.heap.size ≤ x) := by
  rw [arB_app] at hr hl
  simp only at hr hl
  have hrl : rb < w.heap.size := block_lt_of_cell hr.1.1
  have hAl : A.length ≤ 100000 := by have := used_ge A; omega
  have n1 := number_any w rb (numB k 1) _ hl hr
  rw [numB_len, nv1, show k % 256 = k by omega] at n1
  have hl2 : (numB (els.length : Int) 8 ++ (els.flatMap elB ++ b)).length ≤ 9223372036854775807 := by rw [List.length_append] at hl; omega
  have hl3 : (els.flatMap elB ++ b).length ≤ 9223372036854775807 := by rw [List.length_append] at hl2; omega
  have HM : Hid (makeH A lim k (els.length : Int) = (A ++ [(k, List.replicate els.length (k, 0, e0))], (4, (A.length : Int) + 1, e0), 0)) := by
    show makeH A lim k (els.length : Int) = _
    unfold makeH
    rw [if_neg (by omega), if_neg (by omega), if_neg (by omega), Int.toNat_natCast]
  clear hr hl
  go_enter Tryd.func41, Tryd.ntmps41
  go_wp2_with fail
  refine n1.mono ?_
  rintro e w1 ⟨rfl, hq1⟩
  obtain ⟨r1, k1⟩ := hq1.out
  have n2 := number_any w1 rb (numB (els.length : Int) 8) _ hl2 r1
  rw [numB_len, num8 _ (by omega) (by omega)] at n2
  clear n1 hq1
  go_wp2_with fail
  refine n2.mono ?_
  rintro e w2 ⟨rfl, hq2⟩
  obtain ⟨r2, k2⟩ := hq2.out
  have k12 : Kp (fun x => x = rb) w w2 := k1.trans k2 (fun _ _ q => q)
  have h2 := h.kept k12 (fun x hx e => hrF (e ▸ hx))
  have hz2 : Zt w2 := hz.same (k12.block 0 hz.pos (fun e => hrb0 e.symm))
  have hmk := makeC_any h2 hz2 hF0 k (els.length : Int)
  rw [HM.out] at hmk
  simp only at hmk
  rw [show (vc (4, (A.length : Int) + 1, e0)).toArray = #[.int .i64 4, .int .i64 ((A.length : Int) + 1), .string e0] from rfl] at hmk
  clear n2 hq2 HM
  go_wp2_with fail
  refine hmk.mono ?_
  rintro e w3 ⟨rfl, hq3⟩
  obtain ⟨F3, h3, k3, s3⟩ := hq3.out
  have hrl2 : rb < w2.heap.size := block_lt_of_cell r2.1.1
  have r3 := r2.same (k3.block rb hrl2 hrF)
  have nb : Below w3.heap.size w3 (w3.alloc (.cells #[.int .i64 4, .int .i64 ((A.length : Int) + 1), .string e0] 37)) := (Below.refl _ w3).alloc (Nat.le_refl _) _
  have rX := r3.below nb (block_lt_of_cell r3.1.1)
  obtain ⟨q, g, o, vq, vcp, HF, d3, dv⟩ := half_start (h3.next nb)
  have KX : Kp (fun x => F x ∨ x = rb) w (w3.alloc (.cells #[.int .i64 4, .int .i64 ((A.length : Int) + 1), .string e0] 37)) := by
    have q1 : Kp (fun x => F x ∨ x = rb) w w2 := ⟨k12.os, k12.tape, k12.output, k12.size, fun x hx hn => k12.block x hx (fun e => hn (.inr e))⟩
    exact (q1.trans k3 (fun x _ hx => .inl hx)).next nb
  have hF3 : ∀ x, F3 x → F x ∨ w.heap.size ≤ x := fun x hx => by
    rcases s3 x hx with r | r
    · exact .inl r
    · have := k12.size
      exact .inr (by omega)
  have hrF3 : ¬ F3 rb := fun r => by
    rcases hF3 rb r with r | r
    · exact hrF r
    · omega
  obtain ⟨⟨⟨x0, f0⟩, ⟨x1, f1⟩⟩, x2, f2⟩ := Box3.new w3 4 ((A.length : Int) + 1) e0 37
  have x4 := rX.2.1
  have HRX : Hid (Box2 (w3.alloc (.cells #[.int .i64 4, .int .i64 ((A.length : Int) + 1), .string e0] 37)) rb (.string (str (els.flatMap elB ++ b))) (.bool false)) := rX
  clear h h2 h3 hz2 hmk hq3 r1 r2 r3 k1 k2 k3 nb rX k12 s3 hz
  go_upto_region 5 with fail
  generalize w3.alloc (.cells #[.int .i64 4, .int .i64 ((A.length : Int) + 1), .string e0] 37) = X at HF d3 dv KX x0 x1 x2 f0 f1 f2 x4 HRX ⊢
  have y1 := cell_regrown x1
  have y3 := cell_regrown d3
  have yv := cell_regrown dv
  have hw : IntKind.i64.wrap (A.length : Int) = (A.length : Int) := by rw [IntKind.wrap_i64]; omega
  have hw' : wrap64 (A.length : Int) = (A.length : Int) := by unfold wrap64; omega
  have i0 : (0 : Int) ≤ (A.length : Int) := Int.natCast_nonneg _
  have i1 : (A.length : Int) < (A.length : Int) + 1 := Int.lt_succ _
  go_wp2_with fail
  refine wp_region_quiet_below (by kernel_rfl) (by kernel_rfl) ?_
  repeat (first | go_big_quiet_step (first | fail) | quiet_step (first | fail))
  refine wpQuiet_nil ?_
  intro _ hw'
  obtain ⟨⟨dq, osq⟩, hw''⟩ := hw'
  subst hw''
  have hY := below_regrown X dq osq
  change Exit.then _ _ Exit.normal _ (Sort.grow (redrawn X dq) osq)
  generalize Sort.grow (redrawn X dq) osq = Y at hY ⊢
  clear y1 y3 yv x0 x1 x2 f0 f1 f2 d3 dv x4 hw hw'
  have HF2 : Hid (Half Y p lim A k els 0 c F3 q g o) := HF.next hY
  have HR2 : Hid (Box2 Y rb (.string (str (els.flatMap elB ++ b))) (.bool false)) := HRX.out.below hY (block_lt_of_cell HRX.out.1.1)
  have HK2 : Hid (Kp (fun x => F x ∨ x = rb) w Y) := KX.next hY
  clear HF KX HRX hY
  go_wp2_with fail
  go_loopw [45] (fun v wr => ∃ j : Nat, j ≤ els.length ∧ v = .int .i64 (j : Int) ∧ Hid (Half wr p lim A k els j c F3 q g o) ∧ Hid (Box2 wr rb (.string (str ((els.drop j).flatMap elB ++ b))) (.bool false)) ∧ Hid (Kp (fun x => F x ∨ x = rb) w wr)) (fun v _ => els.length - (intOf v).toNat)
  case atStart => exact ⟨0, Nat.zero_le _, rfl, HF2, HR2, HK2⟩
  case round =>
    obtain ⟨j, hj, rfl, hH, hR, hK⟩ := hrel
    clear HF2 HR2 HK2
    by_cases hlt : j < els.length
    case neg =>
      obtain rfl : j = els.length := by omega
      rw [List.drop_length, List.flatMap_nil, List.nil_append] at hR
      have HFIN : Hid (∃ F', HeapC wr p lim (A ++ [(k, els)]) c F' ∧ Box2 wr rb (.string (str b)) (.bool false) ∧ Kp (fun x => F x ∨ x = rb) w wr ∧ ∀ x, F' x → F x ∨ w.heap.size ≤ x) := by
        obtain ⟨As, rq, rn, rg, ro, av, h1, _, h3, _⟩ := hH.out.heap
        rw [List.take_length, Nat.sub_self, List.replicate_zero, List.append_nil] at h3
        exact ⟨F3, ⟨As, rq, rn, rg, ro, av, h3, h1⟩, hR.out, hK.out, hF3⟩
      clear hH hR hK
      go_wp2
      first | (change bodyPost Tryd.prog Tryd.f41 _ Exit.ret _ _) | (simp only [Exit.noGoto])
      go_ret
      exact ⟨rfl, HFIN⟩
    have hmj := hm els[j] (List.getElem_mem hlt)
    have hdr : (els.drop j).flatMap elB ++ b = elB els[j] ++ ((els.drop (j + 1)).flatMap elB ++ b) := by rw [List.drop_eq_getElem_cons hlt, List.flatMap_cons, List.append_assoc]
    rw [hdr] at hR
    have hlj : (elB els[j] ++ ((els.drop (j + 1)).flatMap elB ++ b)).length ≤ 9223372036854775807 := by
      rw [← hdr]
      have e : els.flatMap elB = (els.take j).flatMap elB ++ (els.drop j).flatMap elB := by rw [← List.flatMap_append, List.take_append_drop]
      rw [e, List.append_assoc, List.length_append] at hl3
      omega
    have HPUT : Hid (∀ W, Half W p lim A k els j c F3 q g o → (q = some ⟨g, o, none⟩ ∧ W.there g (o + j * 3) 3 ∧ F3 g) ∧ Half (W.setCells g (o + j * 3) (vc els[j])) p lim A k els (j + 1) c F3 q g o) := fun W hW => hW.put hlt hmj.1
    clear hdr
    generalize els[j] = y at hmj hR hlj HPUT
    obtain ⟨vk, vn, vs⟩ := y
    have hvk : vk = k := (may_parts hmj.1).1
    subst hvk
    have hel := element_any wr rb vk vn vs ((els.drop (j + 1)).flatMap elB ++ b) c hk hmj.1 hmj.2 hlj hR.out
    have hsz : vs.size ≤ 256 := may_small hmj.1
    have j0 : (0 : Int) ≤ (j : Int) := by omega
    have j1 : (j : Int) < (els.length : Int) := by omega
    have hmay := fun W : World => mayBe_any vk vn vs vk c W (by omega)
    rw [hmj.1] at hmay
    have H1 : Hid ((#[.int .i64 vk, .int .i64 vn, .string vs] : Array Value).all (·.oneCell') = true) := one3 _ _ _
    have HNX : Hid (∀ W4, Box2 W4 rb (.string (str ((els.drop (j + 1)).flatMap elB ++ b))) (.bool false) → Kp (fun x => x = rb) wr W4 → ∀ W6, Below W4.heap.size W4 W6 → (q = some ⟨g, o, none⟩ ∧ W6.there g (o + j * 3) 3) ∧ Hid (Half (W6.setCells g (o + j * 3) (vc (vk, vn, vs))) p lim A vk els (j + 1) c F3 q g o) ∧ Hid (Box2 (W6.setCells g (o + j * 3) (vc (vk, vn, vs))) rb (.string (str ((els.drop (j + 1)).flatMap elB ++ b))) (.bool false)) ∧ Hid (Kp (fun x => F x ∨ x = rb) w (W6.setCells g (o + j * 3) (vc (vk, vn, vs))))) := fun W4 hb4 hk4 W6 hb6 => by
      have h4 := (hH.out.kept hk4 (fun x hx e => hrF3 (e ▸ hx))).next hb6
      obtain ⟨⟨t1, t2, t3⟩, t4⟩ := HPUT.out W6 h4
      have hgr : rb ≠ g := fun e => hrF3 (e ▸ t3)
      refine ⟨⟨t1, t2⟩, t4, (hb4.below hb6 (block_lt_of_cell hb4.1.1)).same (sets_heap hgr _ _ _), ?_⟩
      refine Kp.setCells (F := fun x => F x ∨ x = rb) ?_ _ _ ((hK.out.trans hk4 (fun _ _ e => .inr e)).next hb6)
      rcases hF3 g t3 with r | r
      · exact .inl (.inl r)
      · exact .inr r
    clear hH hR hK HPUT hmj hlj
    go_wp2_with fail
    refine hel.mono ?_
    rintro e w4 ⟨rfl, hq4⟩
    obtain ⟨r4, k4⟩ := hq4.out
    have NX := HNX.out w4 r4 k4
    clear HNX hel hq4
    have nb4 : Below w4.heap.size w4 (w4.alloc (.cells #[.int .i64 vk, .int .i64 vn, .string vs] 37)) := (Below.refl _ w4).alloc (Nat.le_refl _) _
    have b13 := Box3.new w4 vk vn vs 37
    obtain ⟨⟨⟨p0, g0⟩, ⟨p1, g1⟩⟩, p2, g2⟩ := id b13
    have l1 := (r4.below nb4 (block_lt_of_cell r4.1.1)).2.1
    have HNX2 : Hid (∀ W6, Below w4.heap.size w4 W6 → (q = some ⟨g, o, none⟩ ∧ W6.there g (o + j * 3) 3) ∧ Hid (Half (W6.setCells g (o + j * 3) (vc (vk, vn, vs))) p lim A vk els (j + 1) c F3 q g o) ∧ Hid (Box2 (W6.setCells g (o + j * 3) (vc (vk, vn, vs))) rb (.string (str ((els.drop (j + 1)).flatMap elB ++ b))) (.bool false)) ∧ Hid (Kp (fun x => F x ∨ x = rb) w (W6.setCells g (o + j * 3) (vc (vk, vn, vs))))) := NX
    clear NX r4 k4
    obtain ⟨⟨rfl, -⟩, -⟩ := HNX2.out w4 (Below.refl _ _)
    go_wp2_with (first
      | (go_at_call 52; refine (hmay _).mono ?_; rintro e w5 ⟨rfl, hb5⟩; obtain ⟨⟨-, hth⟩, n1, n2, n3⟩ := HNX2.out w5 (below2 nb4 hb5); obtain ⟨⟨⟨s0, -⟩, ⟨s1, -⟩⟩, s2, -⟩ := b13.below hb5 (by simp); have HTH : Hid (w5.there g (o + j * 3) (#[.int .i64 vk, .int .i64 vn, .string vs] : Array Value).size) := hth; clear hth)
      | (refine wpList_store_mid (by rfl) 37 (.tmp 65) (.tmp 64) (by rfl) g (o + j * 3) #[.int .i64 vk, .int .i64 vn, .string vs] (by rfl) (by rfl) HTH.out size37 H1.out ?_)
      | go_in)
    exact ⟨⟨j + 1, by omega, by go_num, n1, n2, n3⟩, by simp [intOf]; omega⟩
end Go.Proofs.YtdcioemjmmhbhaaDoor
