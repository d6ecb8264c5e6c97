import Derived.Test.YtdcioemjmmhbhaaDoorFrM
import Derived.Test.YtdcioemjmmhbhaaDoorSave
namespace Go.Proofs.YtdcioemjmmhbhaaDoor
open Go.RowKit

/-- What was there beside the lists is as it was. -/
theorem fresh_keep {W3 w19 X : World} {p lim pw ga gb bb n : Nat} {A : Hp} {F Fw : Nat → Prop} {vsa vsb vs : List Value} {va vb v : Value} {Ls : List (List V)} (q1 : HeapOf W3 p lim A F) (q2 : HeapOf W3 pw lim A Fw) (ka : Ans W3 ga (lsA A) va vsa) (kb : Ans W3 gb (lsA A) vb vsb) (hA : Ans W3 bb Ls v vs) (k19 : Kp (bkL vs) W3 w19)
    (h1 : ∀ b, F b → ¬ bkL vs b) (h2 : ∀ b, Fw b → ¬ bkL vs b) (hB : Below X.heap.size X W3) (h3 : ∀ k, bkL vs k → X.heap.size ≤ k) (hn : n ≤ W3.heap.size) :
    Hid ((HeapOf w19 p lim A F ∧ HeapOf w19 pw lim A Fw) ∧ (w19.ownsRow ga 59 1 va (A.length + 1) vsa ∧ w19.ownsRow gb 59 1 vb (A.length + 1) vsb) ∧ Below X.heap.size X w19 ∧ (vsa.length = A.length + 1 ∧ vsb.length = A.length + 1) ∧ n ≤ w19.heap.size) := by
  have oa := ka.out
  have ob := kb.out
  rw [lsA_len] at oa ob
  have la := ka.len
  have lb := kb.len
  rw [lsA_len] at la lb
  have hnot : ∀ g n, Blk W3 g 59 n → ¬ bkL vs g := fun g n h1 h2 => by
    obtain ⟨_, m, h3⟩ := hA.blk h2
    exact h1.ne h3 (by decide) rfl
  exact ⟨⟨q1.kept k19 h1, q2.kept k19 h2⟩, ⟨own_same oa fun g hg => k19.block g (oa.lt g hg).2 (hnot g _ (own_blk oa g hg)), own_same ob fun g hg => k19.block g (ob.lt g hg).2 (hnot g _ (own_blk ob g hg))⟩, hB.trans (k19.below h3 hB.size), ⟨la, lb⟩, Nat.le_trans hn k19.size⟩

set_option maxRecDepth 100000 in
set_option maxHeartbeats 8000000 in
theorem cellsFresh_any (w : World) (l0 l1 : Int) (q : Option Addr) (cap : Nat) (S : List Sp) (hS : StepsAt w q S) (hz : Zt w) :
    Calls Tryd.prog 5 #[.agg #[.int .i64 l0, .int .i64 l1, .slice q S.length cap]] w fun e w' => e = .returned (.bool true) ∧ Below w.heap.size w w' := by
  have B0 : Below w.heap.size w (w.alloc (.cells #[.int .i64 l0, .int .i64 l1, .slice q S.length cap] 25)) := (Below.refl _ w).alloc (Nat.le_refl _) _
  have hn := World.alloc_heap_new w (.cells #[.int .i64 l0, .int .i64 l1, .slice q S.length cap] 25)
  have z0 : (w.alloc (.cells #[.int .i64 l0, .int .i64 l1, .slice q S.length cap] 25)).heap.size = w.heap.size + 1 := by simp
  have hzp := hz.pos
  go_enter Tryd.func5, Tryd.ntmps5
  go_wp2_with fail
  generalize w.alloc (.cells #[.int .i64 l0, .int .i64 l1, .slice q S.length cap] 25) = X at B0 hn z0 ⊢
  have z1 : w.heap.size < X.heap.size := by omega
  clear z0
  have x0 : X.cell? ⟨w.heap.size, 0, none⟩ = some (.int .i64 l0) := by simp only [World.cell?, hn]; rfl
  have x2 : X.cell? ⟨w.heap.size, 2, none⟩ = some (.slice q S.length cap) := by simp only [World.cell?, hn]; rfl
  have HX : Hid (∀ W, Below X.heap.size X W → W.cell? ⟨w.heap.size, 2, none⟩ = some (.slice q S.length cap) ∧ StepsAt W q S ∧ Zt W) := fun W hW => by
    have hb := below2 B0 hW
    exact ⟨(hW.cell (p := ⟨w.heap.size, 2, none⟩) z1).trans x2, hS.next hb, hz.same (hb.block 0 hzp)⟩
  have hlen := hS.len
  clear hS hz hn x2
  go_wp2_with fail
  refine (new_any l0 X).mono ?_
  rintro e w1 ⟨rfl, h1, b1⟩
  have HX0 : 0 < X.heap.size := by omega
  obtain ⟨lim, hlm⟩ : ∃ lim, limS l0 = lim := ⟨_, rfl⟩
  rw [hlm] at h1
  have hmk := make_any h1 (HX.out w1 b1).2.2 (by omega) 1 2
  generalize makeH [] lim 1 2 = M at hmk
  obtain ⟨M1, ⟨mk, mn, ms⟩, mt⟩ := M
  simp only at hmk
  rw [show (vc (mk, mn, ms)).toArray = #[.int .i64 mk, .int .i64 mn, .string ms] from rfl] at hmk
  clear x0 hlm
  go_wp2_with fail
  refine hmk.mono ?_
  rintro e w2 ⟨rfl, hq2⟩
  have HI0 : Hid (∃ A F, HeapOf w2 X.heap.size lim A F ∧ (∀ b, F b → X.heap.size ≤ b) ∧ Below X.heap.size X w2) := by
    obtain ⟨F', q1, q2, q3⟩ := hq2.out
    refine ⟨M1, F', q1, fun b hb => ?_, b1.trans (q2.below (fun k hk => by omega) b1.size)⟩
    have := b1.size
    rcases q3 b hb with r | r <;> omega
  clear h1 b1 hmk hq2
  have y2 := (HX.out w2 (by obtain ⟨_, _, _, _, r⟩ := HI0.out; exact r)).1
  go_wp2_with fail
  clear y2
  go_loopw [4] (fun v wr => ∃ i : Nat, i ≤ S.length ∧ v = .int .i64 (i : Int) ∧ Hid (∃ A F, HeapOf wr X.heap.size lim A F ∧ (∀ b, F b → X.heap.size ≤ b) ∧ Below X.heap.size X wr)) (fun v _ => S.length - (intOf v).toNat)
  case atStart => exact ⟨0, Nat.zero_le _, rfl, HI0⟩
  case round =>
    obtain ⟨i, hi, rfl, hq⟩ := hrel
    clear HI0
    obtain ⟨A, F, hA, hF, hB⟩ := hq.out
    obtain ⟨x2, hS, hz⟩ := HX.out wr hB
    by_cases hlt : i < S.length
    · obtain ⟨g, o, rfl, hr⟩ := hS.get i hlt
      obtain ⟨t1, t2, t3⟩ := hS.txt S[i] (List.getElem_mem hlt)
      generalize S[i] = sp at hr t1 t2 t3
      obtain ⟨dop, on, kd, n, ⟨rk, rn, rs⟩, xk, xn, xs⟩ := sp
      simp only at t1 t2 t3
      have s0 : wr.cell? ⟨g, o + i * 10, none⟩ = some (.int .i64 dop) := hr 0 _ rfl
      have s1 : wr.cell? ⟨g, o + i * 10 + 1, none⟩ = some (.int .i64 on) := hr 1 _ rfl
      have s2 : wr.cell? ⟨g, o + i * 10 + 2, none⟩ = some (.int .i64 kd) := hr 2 _ rfl
      have s3 : wr.cell? ⟨g, o + i * 10 + 3, none⟩ = some (.int .i64 n) := hr 3 _ rfl
      have s4 : wr.cell? ⟨g, o + i * 10 + 4, none⟩ = some (.int .i64 rk) := hr 4 _ rfl
      have s5 : wr.cell? ⟨g, o + i * 10 + 5, none⟩ = some (.int .i64 rn) := hr 5 _ rfl
      have s6 : wr.cell? ⟨g, o + i * 10 + 6, none⟩ = some (.string rs) := hr 6 _ rfl
      have s7 : wr.cell? ⟨g, o + i * 10 + 7, none⟩ = some (.int .i64 xk) := hr 7 _ rfl
      have s8 : wr.cell? ⟨g, o + i * 10 + 8, none⟩ = some (.int .i64 xn) := hr 8 _ rfl
      have s9 : wr.cell? ⟨g, o + i * 10 + 9, none⟩ = some (.string xs) := hr 9 _ rfl
      have i0 : (0 : Int) ≤ (i : Int) := Int.natCast_nonneg _
      have i2 : (i : Int) < (S.length : Int) := Int.ofNat_lt.2 hlt
      have htk := takes_any hA hz (fun e => by have := hF 0 e; omega) dop on kd n rk rn rs xk xn xs t1 t2
      generalize takeS A lim ⟨dop, on, kd, n, (rk, rn, rs), (xk, xn, xs)⟩ = R at htk
      have HNX : Hid (∀ W, Hid (∃ F', HeapOf W X.heap.size lim R.1 F' ∧ Kp F wr W ∧ ∀ b, F' b → F b ∨ wr.heap.size ≤ b) → ∃ A F, HeapOf W X.heap.size lim A F ∧ (∀ b, F b → X.heap.size ≤ b) ∧ Below X.heap.size X W) := fun W hW => by
        obtain ⟨F', q1, q2, q3⟩ := hW.out
        refine ⟨R.1, F', q1, fun b hb => ?_, hB.trans (q2.below hF hB.size)⟩
        rcases q3 b hb with r | r
        · exact hF b r
        · have := hB.size
          omega
      clear hr hS hz hA hq
      go_wp2_with (first | (go_at_call 15; refine htk.mono ?_; rintro e w5 ⟨rfl, hq5⟩) | go_in)
      exact ⟨⟨i + 1, by omega, by first | rfl | (push_cast; rfl) | go_num, HNX.out w5 hq5⟩, by simp [intOf]; omega⟩
    obtain rfl : i = S.length := by omega
    have hji : ¬ ((S.length : Int) < (S.length : Int)) := by omega
    clear hS hz hlt hi hq
    have hsv := save_any hA
    obtain ⟨T, hT⟩ : ∃ T, (⟨(saveS A).toArray⟩ : ByteArray) = T := ⟨_, rfl⟩
    rw [hT] at hsv
    obtain ⟨hAl, hel⟩ := hA.lens
    have hFl := hA.flt
    have HBX : Hid (Below X.heap.size X wr) := hB
    clear hB
    go_wp2_with fail
    clear x2
    refine hsv.mono ?_
    rintro e w9 ⟨rfl, b9⟩
    have hA9 := hA.next b9
    clear hsv
    go_wp2_with fail
    refine (arrays_any hA9).mono ?_
    rintro e w10 ⟨rfl, ha10, b10⟩
    have hA10 := hA9.next b10
    go_wp2_with fail
    refine (arrays_any hA10).mono ?_
    rintro e w11 ⟨rfl, hb11, b11⟩
    have hA11 := hA10.next b11
    go_wp2_with fail
    refine (clone_heap hA11).mono ?_
    rintro e w12 ⟨rfl, h12⟩
    obtain ⟨Fw, hw12, fw12, b12⟩ := h12.out
    have ne0 : (((A.length + 1 : Nat) : Int) == 0) = false := by simp; omega
    have ne0' : (((A.length : Nat) : Int) + 1 == 0) = false := by simp; omega
    have ne1 : (((A.length + 1 : Nat) : Int) != ((A.length + 1 : Nat) : Int)) = false := by simp
    have ne1' : (((A.length : Nat) : Int) + 1 != ((A.length : Nat) : Int) + 1) = false := by simp
    go_wp2_with fail
    clear ne0 ne0' ne1 ne1'
    refine (new_any 9 w12).mono ?_
    rintro e w13 ⟨rfl, h13, b13⟩
    go_wp2_with fail
    refine (arrays_any h13).mono ?_
    rintro e w14 ⟨rfl, ho14, b14⟩
    obtain ⟨vsa, ha⟩ := ha10.out
    obtain ⟨vsb, hb⟩ := hb11.out
    obtain ⟨vso, ho⟩ := ho14.out
    have s9 := b9.size
    have s10 := b10.size
    have s11 := b11.size
    have s12 := b12.size
    have s13 := b13.size
    have s14 := b14.size
    have fw := hw12.flt
    have HBK : Hid (∀ g, bkL (vsa ++ vsb ++ vso) g → (w9.heap.size ≤ g ∧ g < w11.heap.size) ∨ w13.heap.size ≤ g) := fun g hg => by
      rcases bkL_app hg with h | h
      · rcases bkL_app h with h | h
        · have := (ha.blk h).1
          omega
        · have := (hb.blk h).1
          omega
      · have := (ho.blk h).1
        omega
    have HS3 : Hid ((∀ g, bkL vsa g → ¬ bkL vsb g) ∧ ∀ g, bkL (vsa ++ vsb) g → ¬ bkL vso g) := by
      refine ⟨fun g h1 h2 => ?_, fun g h1 h2 => ?_⟩
      · have := (ha.blk h1).1
        have := (hb.blk h2).1
        omega
      · have := (ho.blk h2).1
        rcases bkL_app h1 with h | h
        · have := (ha.blk h).1
          omega
        · have := (hb.blk h).1
          omega
    have H14 : Hid (∀ W, Below w14.heap.size w14 W → (HeapOf W X.heap.size lim A F ∧ HeapOf W w11.heap.size lim A Fw) ∧ Ans W w9.heap.size (lsA A) (.slice (some ⟨w9.heap.size, 0, none⟩) (A.length + 1) (A.length + 1)) vsa ∧ Ans W w10.heap.size (lsA A) (.slice (some ⟨w10.heap.size, 0, none⟩) (A.length + 1) (A.length + 1)) vsb ∧ Ans W w13.heap.size (lsA []) (.slice (some ⟨w13.heap.size, 0, none⟩) (([] : Hp).length + 1) (([] : Hp).length + 1)) vso) := fun W hW =>
      ⟨⟨((((hA11.next b12).next b13).next b14).next hW), ((hw12.next b13).next b14).next hW⟩, (((((ha.next b11).next b12).next b13).next b14).next hW), ((((hb.next b12).next b13).next b14).next hW), ho.next hW⟩
    have HBW : Hid (Below X.heap.size X w14) := by
      have q0 := HBX.out
      have q9 := q0.trans (b9.mono q0.size)
      have q10 := q9.trans (b10.mono q9.size)
      have q11 := q10.trans (b11.mono q10.size)
      have q12 := q11.trans (b12.mono q11.size)
      have q13 := q12.trans (b13.mono q12.size)
      exact q13.trans (b14.mono q13.size)
    have hXz := HBX.out.size
    have HF9 : Hid (∀ b, F b → X.heap.size ≤ b ∧ b < w9.heap.size) := fun b hb => ⟨hF b hb, Nat.lt_of_lt_of_le (hFl b hb) s9⟩
    have HFW : Hid (∀ b, Fw b → w11.heap.size ≤ b ∧ b < w12.heap.size) := fun b hb => ⟨fw12 b hb, fw b hb⟩
    have HSM : Hid (∀ (W : World) (g1 g2 b1 b2 c1 c2 : Nat) (v1 v2 : List Value), Ans W b1 (lsA A) (.slice (some ⟨g1, 0, none⟩) (A.length + 1) c1) v1 → Ans W b2 (lsA A) (.slice (some ⟨g2, 0, none⟩) (A.length + 1) c2) v2 → Calls Tryd.prog 22 #[.slice (some ⟨g1, 0, none⟩) (A.length + 1) c1, .slice (some ⟨g2, 0, none⟩) (A.length + 1) c2] W fun e w' => e = .returned (.bool true) ∧ Below W.heap.size W w') := fun W g1 g2 b1 b2 c1 c2 v1 v2 k1 k2 => by
      rw [← lsA_len] at k1 k2 ⊢
      exact same_any k1.lists k2.lists (by rw [lsA_len]; omega) hel
    have HEL : Hid (∀ l ∈ lsA A, l.length ≤ 100000) := hel
    have HTT : Hid ((⟨(saveS A).toArray⟩ : ByteArray) = T) := hT
    clear ha10 hb11 ho14 h12 hA hA9 hA10 hA11 hw12 h13 ha hb ho b9 b10 b11 b12 b13 b14 fw fw12 hF hFl HBX hel hT
    obtain ⟨-, a14, c14, -⟩ := H14.out w14 (Below.refl _ _)
    have S14 := HSM.out w14 _ _ _ _ _ _ _ _ a14 c14
    clear a14 c14
    go_wp2_with fail
    refine S14.mono ?_
    rintro e w15 ⟨rfl, b15⟩
    clear S14
    have A15 := arrays_any (H14.out w15 b15).1.2
    go_wp2_with fail
    refine A15.mono ?_
    rintro e w16 ⟨rfl, hx16, b1516⟩
    have b16 := b15.trans (b1516.mono b15.size)
    clear A15 b15 b1516
    obtain ⟨vsx, hx⟩ := hx16.out
    have S16 := HSM.out w16 _ _ _ _ _ _ _ _ (H14.out w16 b16).2.1 hx
    clear hx hx16
    go_wp2_with fail
    refine S16.mono ?_
    rintro e w17 ⟨rfl, b1617⟩
    have b17 := b16.trans (b1617.mono b16.size)
    clear S16 b16 b1617
    have s17 := b17.size
    obtain ⟨-, ka, kb, ko⟩ := H14.out w17 b17
    have oa := ka.out
    rw [lsA_len] at oa
    obtain ⟨v1, W1, r1, o1, d1⟩ := app_row w17 w17.heap.size (.slice none 0 0) 0 [] (World.ownsRow_nil _ _ _ _) w9.heap.size w9.heap.size (A.length + 1) (A.length + 1) vsa oa ka.slices (by omega) (Nat.le_refl _)
    have ob := (kb.next d1).out
    rw [lsA_len] at ob
    obtain ⟨v2, W2, r2, o2, d2⟩ := app_row W1 w17.heap.size v1 _ _ o1 w10.heap.size w10.heap.size (A.length + 1) (A.length + 1) vsb ob kb.slices (by omega) d1.size
    have d12 := d1.trans d2
    have oo := (ko.next d12).out
    rw [lsA_len] at oo
    obtain ⟨v3, W3, r3, o3, d3⟩ := app_row W2 w17.heap.size v2 _ _ o2 w13.heap.size w13.heap.size (([] : Hp).length + 1) (([] : Hp).length + 1) vso oo ko.slices (by show 0 + (A.length + 1) + (A.length + 1) + (0 + 1) ≤ 1000000; omega) d12.size
    have d13 := d12.trans d3
    have b18 : Below w14.heap.size w14 W3 := b17.trans (d13.mono s17)
    have hL3 : (lsA A ++ lsA A ++ lsA []).length = 0 + (A.length + 1) + (A.length + 1) + (([] : Hp).length + 1) := by simp [lsA_len]; omega
    rw [List.nil_append, ← hL3] at o3
    obtain ⟨o3q, c3, rfl, -, hp3⟩ := own_slice o3
    obtain ⟨O, rfl, -⟩ := hp3 (by rw [hL3]; omega)
    have HAN : Hid (Ans W3 w9.heap.size (lsA A ++ lsA A ++ lsA []) (.slice (some ⟨O, 0, none⟩) (lsA A ++ lsA A ++ lsA []).length c3) (vsa ++ vsb ++ vso)) := by
      obtain ⟨-, ka, kb, ko⟩ := H14.out W3 b18
      exact ((ka.par.join (kb.down s10).par HS3.out.1).join (ko.down (by omega)).par HS3.out.2).ans (own_down o3 (by omega))
    have AP := apart_any W3 O c3 w9.heap.size _ _ HAN.out (by rw [hL3]; show 0 + (A.length + 1) + (A.length + 1) + (0 + 1) ≤ 300000; omega) (fun l hl => by
      rcases List.mem_append.1 hl with q | q
      · rcases List.mem_append.1 q with q | q
        · exact HEL.out l q
        · exact HEL.out l q
      · have : l = [] := by simpa [lsA] using q
        subst this
        exact Nat.zero_le _) (by have := b18.size; omega)
    rw [hL3] at AP
    have hz3 := b18.size
    clear ka kb ko oa ob oo o1 o2 o3 d1 d2 d12 d3 d13 b17 hp3
    rw [hL3] at r3
    go_wp2_with (first
      | (at_builtin; first | refine wpList_apr rfl (.tmp 76) (.tmp 77) 32 rfl r1 ?_ | refine wpList_apr rfl (.tmp 79) (.tmp 80) 32 rfl r2 ?_ | refine wpList_apr rfl (.tmp 82) (.tmp 83) 32 rfl r3 ?_)
      | fail)
    have hsum : 0 + (A.length + 1) + (A.length + 1) + (([] : Hp).length + 1) = A.length + 1 + (A.length + 1) + 1 := by simp
    rw [hsum] at AP
    clear hsum
    refine AP.mono ?_
    rintro e w19 ⟨rfl, k19⟩
    have HK := fresh_keep (H14.out W3 b18).1.1 (H14.out W3 b18).1.2 (H14.out W3 b18).2.1 (H14.out W3 b18).2.2.1 HAN.out k19 (fun b hb hg => by have := HF9.out b hb; have := HBK.out b hg; omega) (fun b hb hg => by have := HFW.out b hb; have := HBK.out b hg; omega) (HBW.out.trans (b18.mono HBW.out.size)) (fun k hk => by have := HBK.out k hk; omega) b18.size
    have s19 : w14.heap.size ≤ w19.heap.size := HK.out.2.2.2.2
    clear AP k19 HAN H14 HS3 HBK HBW HF9 HFW HEL r1 r2 r3 b18 hL3 hz3
    have HAR : Hid (∀ W, Below w19.heap.size w19 W → ((HeapOf W X.heap.size lim A F ∧ HeapOf W w11.heap.size lim A Fw) ∧ (W.ownsRow w9.heap.size 59 1 (.slice (some ⟨w9.heap.size, 0, none⟩) (A.length + 1) (A.length + 1)) (A.length + 1) vsa ∧ W.ownsRow w10.heap.size 59 1 (.slice (some ⟨w10.heap.size, 0, none⟩) (A.length + 1) (A.length + 1)) (A.length + 1) vsb)) ∧ Below X.heap.size X W) := fun W hW => by
      obtain ⟨⟨q1, q2⟩, ⟨q3, q4⟩, q5, -, -⟩ := HK.out
      exact ⟨⟨⟨q1.next hW, q2.next hW⟩, own_next q3 hW, own_next q4 hW⟩, q5.trans (hW.mono q5.size)⟩
    have HLN : Hid (vsa.length = A.length + 1 ∧ vsb.length = A.length + 1) := HK.out.2.2.2.1
    have hNl : A.length + 1 ≤ 200000 := by omega
    have HSV : Hid (∀ W, HeapOf W X.heap.size lim A F → Calls Tryd.prog 16 #[.pointer (some ⟨X.heap.size, 0, none⟩)] W fun e w' => e = .returned (.string T) ∧ Below W.heap.size W w') := fun W hW => by
      have := save_any hW
      rw [HTT.out] at this
      exact this
    have HAY : Hid (∀ (W : World) (p : Nat) (G : Nat → Prop), HeapOf W p lim A G → Calls Tryd.prog 21 #[.pointer (some ⟨p, 0, none⟩)] W fun e w' => e = .returned (.slice (some ⟨W.heap.size, 0, none⟩) (A.length + 1) (A.length + 1)) ∧ Hid (∃ vs, Ans w' W.heap.size (lsA A) (.slice (some ⟨W.heap.size, 0, none⟩) (A.length + 1) (A.length + 1)) vs) ∧ Below W.heap.size W w') := fun W p G hW => arrays_any hW
    clear HK HTT hAl
    generalize A.length + 1 = N at HAR HLN hNl HSM HAY ⊢
    go_wp2_with fail
    go_loopw [12, 13, 14] (fun v12 v13 v14 wr => ∃ i : Nat, i ≤ 70 ∧ v14 = .int .i64 (i : Int) ∧ Hid (Cd w19.heap.size wr N (.slice (some ⟨w9.heap.size, 0, none⟩) N N) vsa 6 i v12 ∧ Cd w19.heap.size wr N (.slice (some ⟨w10.heap.size, 0, none⟩) N N) vsb 7 i v13 ∧ (0 < i → ∀ g, v12.ownBlock = some g → v13.ownBlock ≠ some g)) ∧ Hid (Below w19.heap.size w19 wr)) (fun _ _ v _ => 70 - (intOf v).toNat)
    case atStart => exact ⟨0, by omega, rfl, ⟨.inl ⟨rfl, rfl⟩, .inl ⟨rfl, rfl⟩, fun h => by omega⟩, Below.refl _ _⟩
    case round =>
      obtain ⟨i, hi, rfl, hC, hB⟩ := hrel
      by_cases h70 : i < 70
      · have h70' : (i : Int) < 70 := by omega
        have hzB := hB.out.size
        obtain ⟨vc', wC, rC, vd', wD, rD, hN2, hBD⟩ := cd_round hC.out.1 hC.out.2.1 hC.out.2.2 (fun W hW => (HAR.out W (hB.out.trans hW)).1.2.1) (fun W hW => (HAR.out W (hB.out.trans hW)).1.2.2) (show w9.heap.size ≤ w19.heap.size by omega) (show w10.heap.size ≤ w19.heap.size by omega) hzB hNl hi
        have HN2 : Hid _ := hN2
        have HBD : Hid (Below w19.heap.size w19 wD) := hB.out.trans hBD
        clear hC hN2 hBD hB
        go_wp2_with (first
          | (at_builtin; first | refine wpList_apr rfl (.tmp 94) (.tmp 97) 32 rfl rC ?_ | refine wpList_apr rfl (.tmp 99) (.tmp 102) 32 rfl rD ?_)
          | go_in)
        exact ⟨⟨i + 1, by omega, by go_num, HN2, HBD⟩, by simp [intOf]; omega⟩
      obtain rfl : i = 70 := by omega
      have HC : Hid (∀ k, k < 70 → (∃ g c gx, u12 = .slice (some ⟨g, 0, none⟩) (N + 70) c ∧ wr.cell? ⟨g, N + k, none⟩ = some (.slice (some ⟨gx, 0, none⟩) 1 1) ∧ wr.cell? ⟨gx, 0, none⟩ = some (.int .i64 6)) ∧ ∃ g c gx, u13 = .slice (some ⟨g, 0, none⟩) (N + 70) c ∧ wr.cell? ⟨g, N + k, none⟩ = some (.slice (some ⟨gx, 0, none⟩) 1 1) ∧ wr.cell? ⟨gx, 0, none⟩ = some (.int .i64 7)) := fun k hk => ⟨hC.out.1.get HLN.out.1 k hk, hC.out.2.1.get HLN.out.2 k hk⟩
      obtain ⟨⟨gc, cc, -, rfl, -⟩, gd, cd, -, rfl, -⟩ := HC.out 0 (by omega)
      obtain ⟨⟨⟨hh, hw⟩, -⟩, hBX⟩ := HAR.out wr hB.out
      have HHH : Hid (HeapOf wr X.heap.size lim A F ∧ HeapOf wr w11.heap.size lim A Fw) := ⟨hh, hw⟩
      have HBXX : Hid (Below X.heap.size X wr) := hBX
      clear hC hB hh hw hBX HAR HLN
      go_wp2_with fail
      generalize wr = w20 at *
      go_loopw [15] (fun v wr => ∃ k : Nat, k ≤ 70 ∧ v = .int .i64 (k : Int) ∧ wr = w20) (fun v _ => 70 - (intOf v).toNat)
      case atStart => exact ⟨0, by omega, rfl, rfl⟩
      case round =>
        obtain ⟨k, hk, rfl, rfl⟩ := hrel
        by_cases hk70 : k < 70
        · have hk70' : (k : Int) < 70 := by omega
          obtain ⟨⟨g1, c1, x1, e1, m1, m2⟩, g2, c2, x2, e2, m3, m4⟩ := HC.out k hk70
          cases e1
          cases e2
          have iw : IntKind.i64.wrap ((N : Int) + (k : Int)) = (N : Int) + (k : Int) := by rw [IntKind.wrap_i64]; omega
          have j0 : (0 : Int) ≤ (N : Int) + (k : Int) := by omega
          have j1 : (N : Int) + (k : Int) < ((N + 70 : Nat) : Int) := by omega
          have j1' : (N : Int) + (k : Int) < (N : Int) + 70 := by omega
          have j2 : ((N : Int) + (k : Int)).toNat = N + k := by omega
          go_wp2
          exact ⟨⟨k + 1, by omega, by go_num, by first | rfl | trivial⟩, by simp [intOf]; omega⟩
        obtain rfl : k = 70 := by omega
        have SV := HSV.out _ HHH.out.1
        go_wp2_with fail
        refine SV.mono ?_
        rintro e w21 ⟨rfl, b21⟩
        have AY := HAY.out w21 _ _ (HHH.out.1.next b21)
        clear SV
        go_wp2_with fail
        refine AY.mono ?_
        rintro e w22 ⟨rfl, hv22, b2122⟩
        have b22 := b21.trans (b2122.mono b21.size)
        have AZ := HAY.out w22 _ _ (HHH.out.2.next b22)
        clear AY
        go_wp2_with fail
        refine AZ.mono ?_
        rintro e w23 ⟨rfl, hv23, b2223⟩
        have b23 := b22.trans (b2223.mono b22.size)
        obtain ⟨v22, q22⟩ := hv22.out
        obtain ⟨v23, q23⟩ := hv23.out
        have SM := HSM.out w23 _ _ _ _ _ _ _ _ (q22.next b2223) q23
        clear AZ hv22 hv23 q22 q23
        go_wp2_with fail
        refine SM.mono ?_
        rintro e w24 ⟨rfl, b2324⟩
        have b24 := b23.trans (b2324.mono b23.size)
        go_wp2_with fail
        first | (change bodyPost Tryd.prog Tryd.f5 _ Exit.ret _ _) | (simp only [Exit.noGoto])
        go_ret
        exact ⟨rfl, below2 B0 (HBXX.out.trans (b24.mono HBXX.out.size))⟩
end Go.Proofs.YtdcioemjmmhbhaaDoor
