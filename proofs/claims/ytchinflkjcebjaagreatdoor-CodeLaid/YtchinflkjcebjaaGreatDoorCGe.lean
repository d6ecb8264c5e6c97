import Derived.Test.YtchinflkjcebjaaGreatDoorCGd
namespace Go.Proofs.YtchinflkjcebjaaGreatDoor
open Go.RowKit

def gS (G : List ByteArray) (n : Nat) : Bs := lt (gapAt G n)
/-- What is known between two rounds. -/
structure SpI (F : Bs) (g : Nat → Bs) (t : Bs) (S : ByteArray) (b : Bool) (k j : Nat) : Prop where
  ex : ∃ A, S = YtchinflkjcebjaaGreatDoor.bk A ∧ A ++ spS g b k (t.drop j) = F
  ok : spK b (t.drop j) = true
theorem SpI.go {F : Bs} {g : Nat → Bs} {t : Bs} {S : ByteArray} {b b' : Bool} {k k' j j' : Nat} {x : Bs} (h : SpI F g t S b k j) (hF : F.length ≤ 9223372036854775000) (e : spS g b k (t.drop j) = x ++ spS g b' k' (t.drop j')) (o : spK b' (t.drop j') = true) : ∃ S2, Op.stringOp .add S (YtchinflkjcebjaaGreatDoor.bk x) = pure (.string S2) ∧ SpI F g t S2 b' k' j' := by
  obtain ⟨A, e1, e2⟩ := h.ex
  have hl : A.length + x.length ≤ F.length := by
    rw [← e2, e]
    simp only [List.length_append]
    omega
  exact ⟨YtchinflkjcebjaaGreatDoor.bk (A ++ x), by rw [e1]; exact catB A x (by omega), ⟨_, rfl, by rw [List.append_assoc, ← e]; exact e2⟩, o⟩
theorem SpI.go2 {F : Bs} {g : Nat → Bs} {t : Bs} {S : ByteArray} {b b' : Bool} {k k' j j' : Nat} {x y : Bs} (h : SpI F g t S b k j) (hF : F.length ≤ 9223372036854775000) (e : spS g b k (t.drop j) = x ++ (y ++ spS g b' k' (t.drop j'))) (o : spK b' (t.drop j') = true) : ∃ S1 S2, Op.stringOp .add S (YtchinflkjcebjaaGreatDoor.bk x) = pure (.string S1) ∧ Op.stringOp .add S1 (YtchinflkjcebjaaGreatDoor.bk y) = pure (.string S2) ∧ SpI F g t S2 b' k' j' := by
  obtain ⟨A, e1, e2⟩ := h.ex
  have hl : A.length + x.length + y.length ≤ F.length := by
    rw [← e2, e]
    simp only [List.length_append]
    omega
  exact ⟨YtchinflkjcebjaaGreatDoor.bk (A ++ x), YtchinflkjcebjaaGreatDoor.bk (A ++ x ++ y), by rw [e1]; exact catB A x (by omega), catB (A ++ x) y (by rw [List.length_append]; omega), ⟨_, rfl, by rw [List.append_assoc, List.append_assoc, ← e]; exact e2⟩, o⟩
set_option maxRecDepth 100000 in
set_option maxHeartbeats 16000000 in
theorem spread_any (a0 a1 a2 a3 : Value) (gq : Option Addr) (ga : Nat) (G : List ByteArray) (T : ByteArray) (w : World) (hr : Row w w.heap.size gq G.length (tv G)) (hl : G.length ≤ 140737488351232) (hG : ∀ x ∈ G, x.size ≤ 140737488351232) (hT : T.size ≤ 140737488351232) (hk : spK false (lt T) = true) : Calls Tryz.prog 11 #[.agg #[a0, a1, a2, a3, .slice gq G.length ga], .string T] w fun e w' => e = .returned (.string (YtchinflkjcebjaaGreatDoor.bk (spS (gS G) false 0 (lt T)))) ∧ Below w.heap.size w w' := by
  obtain ⟨F, HF⟩ : ∃ F, Hid (F = spS (gS G) false 0 (lt T)) := ⟨_, (rfl : spS (gS G) false 0 (lt T) = _)⟩
  have HL : Hid (F.length ≤ 9223372036854775000) := by
    show F.length ≤ _
    rw [HF.out]
    have h1 := sp_len (gS G) (lt T).length false 0 (lt T) (Nat.le_refl _)
    rw [lt_len] at h1
    omega
  rw [← HF.out]
  have HS : Hid (∀ n, (gapAt G n).size ≤ 140737488351232) := fun n => by
    unfold gapAt
    by_cases h0 : G = []
    · rw [if_pos h0]
      show (0 : Nat) ≤ _
      omega
    · rw [if_neg h0, List.getD_eq_getElem?_getD, List.getElem?_eq_getElem (Nat.mod_lt _ (List.length_pos_iff.2 h0))]
      exact hG _ (List.getElem_mem _)
  have HI : Hid (SpI F (gS G) (lt T) e0 false 0 0) := ⟨⟨[], rfl, by rw [List.drop_zero, HF.out]; rfl⟩, by rw [List.drop_zero]; exact hk⟩
  have HLL : Hid ((lt T).length = T.size) := lt_len T
  have HR : Hid (Row w w.heap.size gq G.length (tv G)) := hr
  obtain ⟨W1, hW1⟩ : ∃ W1, W1 = w.alloc (.cells #[a0, a1, a2, a3, .slice gq G.length ga] 37) := ⟨_, rfl⟩
  have H1 : Hid (Lb W1 w.heap.size a0 a1 a2 a3 gq ga G ∧ Below w.heap.size w W1) := by
    rw [hW1]
    exact ⟨World.alloc_heap_new w _, (Below.refl _ w).alloc (Nat.le_refl _) _⟩
  have H2 : Hid (∀ W, Below W1.heap.size W1 W → Below w.heap.size w W) := fun W h => below2 H1.out.2 h
  have H3 : Hid (∀ (W : World) (n : Nat), n ≤ T.size → Below W1.heap.size W1 W → Calls Tryz.prog 33 #[.agg #[a0, a1, a2, a3, .slice gq G.length ga], .int .i64 (n : Int)] W fun e w' => e = .returned (.string (gapAt G n)) ∧ Below W.heap.size W w') := fun W n hn h => one_any a0 a1 a2 a3 gq ga G n W ((HR.out.below (H2.out W h) (Nat.le_refl _)).up (H2.out W h).size) hl
  have hTi : (T.size : Int) ≤ 140737488351232 := by omega
  clear hr hG hk HF HR
  go_enter Tryz.func11, Tryz.ntmps11
  go_upto_region 1 with fail
  rw [← hW1]
  clear hW1
  go_wp2_with fail
  go_loopw [5, 6, 7, 8] (fun v q n i wr => ∃ (S : ByteArray) (b : Bool) (k j : Nat), v = .string S ∧ q = .bool b ∧ n = .int .i64 (k : Int) ∧ i = .int .i64 (j : Int) ∧ k ≤ j ∧ j ≤ T.size ∧ Hid (SpI F (gS G) (lt T) S b k j) ∧ Hid (Below W1.heap.size W1 wr)) (fun _ _ _ i _ => T.size - (intOf i).toNat)
  case atStart => exact ⟨_, false, 0, 0, rfl, rfl, rfl, rfl, Nat.le_refl _, Nat.zero_le _, HI, Below.refl _ _⟩
  case round =>
    obtain ⟨S, b, k, j, rfl, rfl, rfl, rfl, hkj, hj, hS, hb⟩ := hrel
    clear HI
    by_cases hlt : j < T.size
    case neg =>
      obtain rfl : j = T.size := by omega
      have p1 : ¬ (T.size : Int) < (T.size : Int) := by omega
      have e : S = YtchinflkjcebjaaGreatDoor.bk F := by
        obtain ⟨A, e1, e2⟩ := hS.out.ex
        rw [← HLL.out, List.drop_length] at e2
        have e3 : spS (gS G) b k [] = [] := by rw [spS.eq_def]
        rw [e3, List.append_nil] at e2
        rw [e1, e2]
      rw [e]
      have HB := H2.out _ hb.out
      have HB' : Hid (Below w.heap.size w wr) := HB
      clear hS HB e hb H3 HS
      go_wp2
      first | (change bodyPost Tryz.prog Tryz.f11 _ Exit.ret _ _) | (simp only [Exit.noGoto])
      go_ret
      exact ⟨rfl, HB'.out⟩
    have ixj := ix_lt T j hlt
    have j0 : (0 : Int) ≤ (j : Int) := by omega
    have j1 : (j : Int) < (T.size : Int) := by omega
    have slj := slOne T j hlt .i64
    have hd := drop_c T j hlt
    have HD : Hid ((lt T).drop j = (lt T).getD j 0 :: (lt T).drop (j + 1)) := hd
    clear hd
    have HC : Hid (∀ d, (lt T).getD j 0 = d → (lt T).drop j = d :: (lt T).drop (j + 1)) := fun d e => by rw [← e]; exact HD.out
    have HC2 : Hid (∀ d q, (lt T).getD j 0 = d → (lt T).drop (j + 1) = q → (lt T).drop j = d :: q) := fun d q e f => by rw [← e, ← f]; exact HD.out
    obtain ⟨c, ec⟩ : ∃ c, c = (lt T).getD j 0 := ⟨_, rfl⟩
    rw [← ec] at ixj slj
    have EC : Hid ((lt T).getD j 0 = c) := ec.symm
    clear ec
    have hcl := c.toNat_lt
    have cne : ∀ n : Nat, n < 256 → c ≠ UInt8.ofNat n → ¬ (c.toNat : Int) = (n : Int) := fun n hn hne q => hne (by
      have q' : c.toNat = n := by omega
      rw [← q', UInt8.ofNat_toNat])
    have CNE : Hid (∀ n : Nat, n < 256 → c ≠ UInt8.ofNat n → ¬ (c.toNat : Int) = (n : Int)) := cne
    clear cne
    by_cases h92 : b = true ∧ c = 92
    · obtain ⟨rfl, rfl⟩ := h92
      have e := HC.out _ EC.out
      have hne : (lt T).drop (j + 1) ≠ [] := fun q => by
        have ok := hS.out.ok
        rw [e, q] at ok
        cases ok
      have hlt2 : j + 1 < T.size := by
        by_cases q : j + 1 < T.size
        · exact q
        · exact absurd (List.drop_eq_nil_of_le (by rw [HLL.out]; omega)) hne
      have e2 := drop_c T (j + 1) hlt2
      have t1 := sp_two (gS G) k ((lt T).getD (j + 1) 0) ((lt T).drop (j + 1 + 1))
      have ok := hS.out.ok
      rw [e, e2, t1.2] at ok
      obtain ⟨S2, k1, k2⟩ := hS.out.go (x := [92, (lt T).getD (j + 1) 0]) (b' := true) (k' := k) (j' := j + 2) HL.out (by rw [e, e2, t1.1]; rfl) ok
      have HS2 : Hid (SpI F (gS G) (lt T) S2 true k (j + 2)) := k2
      have sl2 := slTwo T j hlt2 .i64
      rw [EC.out] at sl2
      generalize YtchinflkjcebjaaGreatDoor.bk [92, (lt T).getD (j + 1) 0] = X at k1 sl2
      have j2 : (j : Int) + 2 ≤ (T.size : Int) := by omega
      clear e hne e2 t1 ok k2 hS HC HC2 EC CNE HD slj HS H3
      go_wp2
      exact ⟨⟨S2, true, k, j + 2, rfl, rfl, rfl, by go_num, by omega, by omega, HS2, hb⟩, by simp [intOf]; omega⟩
    by_cases h34 : c = 34
    · subst h34
      have e := HC.out _ EC.out
      have t1 := sp_quote (gS G) k b ((lt T).drop (j + 1))
      have ok := hS.out.ok
      rw [e, t1.2] at ok
      obtain ⟨S2, k1, k2⟩ := hS.out.go (x := [34]) (b' := !b) (k' := k) (j' := j + 1) HL.out (by rw [e, t1.1]; rfl) ok
      have HS2 : Hid (SpI F (gS G) (lt T) S2 (!b) k (j + 1)) := k2
      have k1' : Op.stringOp .add S ⟨#[34]⟩ = pure (.string S2) := k1
      clear e t1 ok k1 k2 hS HC HC2 EC CNE HD slj HS H3 h92
      cases b with
      | true =>
        go_wp2
        exact ⟨⟨S2, false, k, j + 1, rfl, rfl, rfl, by go_num, by omega, by omega, HS2, hb⟩, by simp [intOf]; omega⟩
      | false =>
        go_wp2
        exact ⟨⟨S2, true, k, j + 1, rfl, rfl, rfl, by go_num, by omega, by omega, HS2, hb⟩, by simp [intOf]; omega⟩
    have m34 : ¬ (c.toNat : Int) = 34 := CNE.out 34 (by decide) h34
    have n34 : ((c.toNat : Int) == 34) = false := by rw [beq_eq_false_iff_ne]; exact m34
    by_cases h32 : c = 32 ∧ b = false
    · obtain ⟨rfl, rfl⟩ := h32
      have e := HC.out _ EC.out
      have t1 := sp_blank (gS G) k ((lt T).drop (j + 1))
      have ok := hS.out.ok
      rw [e, t1.2] at ok
      obtain ⟨S2, k1, k2⟩ := hS.out.go (x := blS (gS G k)) (b' := false) (k' := k + 1) (j' := j + 1) HL.out (by rw [e, t1.1]) ok
      have HS2 : Hid (SpI F (gS G) (lt T) S2 false (k + 1) (j + 1)) := k2
      have hbox := H1.out.1.next hb.out
      obtain ⟨x0, x1, x2, x3, x4⟩ := hbox.cs
      have o1 := H3.out wr k (by omega) hb.out
      have B1 := fun W => blanks_any (gapAt G k) W (HS.out k)
      have HB1 : Hid (∀ W : World, Calls Tryz.prog 32 #[.string (gapAt G k)] W fun e w' => e = .returned (.string (YtchinflkjcebjaaGreatDoor.bk (blS (lt (gapAt G k))))) ∧ Below W.heap.size W w') := B1
      have k1' : Hid (Op.stringOp .add S (YtchinflkjcebjaaGreatDoor.bk (blS (lt (gapAt G k)))) = pure (.string S2)) := k1
      clear e t1 ok k1 k2 hS HC HC2 EC CNE HD slj HS H3 h92 B1 hbox
      generalize YtchinflkjcebjaaGreatDoor.bk (blS (lt (gapAt G k))) = X at k1' HB1
      generalize gapAt G k = Gk at o1 HB1
      go_wp2_with fail
      refine o1.mono ?_
      rintro e W2 ⟨rfl, hw2⟩
      have hb2 : Hid (Below W1.heap.size W1 W2) := below2 hb.out hw2
      have o2 := HB1.out W2
      clear o1 x0 x1 x2 x3 x4 hb hw2 HB1
      go_wp2_with fail
      refine o2.mono ?_
      rintro e W3 ⟨rfl, hw3⟩
      have hb3 : Hid (Below W1.heap.size W1 W3) := below2 hb2.out hw3
      have k2 := k1'.out
      clear o2 hb2 hw3 k1'
      go_wp2
      exact ⟨⟨S2, false, k + 1, j + 1, rfl, rfl, by go_num, by go_num, by omega, by omega, HS2, hb3⟩, by simp [intOf]; omega⟩
    by_cases h10 : c = 10
    · subst h10
      have e := HC.out _ EC.out
      cases b with
      | true =>
        have t0 : spS (gS G) true k (10 :: (lt T).drop (j + 1)) = bhS (gS G k) ++ (10 :: spS (gS G) true (k + 1) ((lt T).drop (j + 1))) ∧ spK true (10 :: (lt T).drop (j + 1)) = spK true ((lt T).drop (j + 1)) := by
          constructor
          · rw [spS.eq_def]
            simp only
            rw [if_neg (by decide), if_neg (by decide), if_neg (by decide), if_pos trivial]
          · rw [spK.eq_def]
            simp only
            rw [if_neg (by decide), if_neg (by decide)]
        have t1 := t0
        clear t0
        have ok := hS.out.ok
        rw [e, t1.2] at ok
        obtain ⟨S1, S2, k1, k3, k2⟩ := hS.out.go2 (x := bhS (gS G k)) (y := [10]) (b' := true) (k' := k + 1) (j' := j + 1) HL.out (by rw [e, t1.1]; rfl) ok
        have HS2 : Hid (SpI F (gS G) (lt T) S2 true (k + 1) (j + 1)) := k2
        have hbox := H1.out.1.next hb.out
        obtain ⟨x0, x1, x2, x3, x4⟩ := hbox.cs
        have o1 := H3.out wr k (by omega) hb.out
        have HB1 : Hid (∀ W : World, Calls Tryz.prog 34 #[.string (gapAt G k)] W fun e w' => e = .returned (.string (YtchinflkjcebjaaGreatDoor.bk (bhS (lt (gapAt G k))))) ∧ Below W.heap.size W w') := fun W => behind_any (gapAt G k) W (HS.out k)
        have k1' : Hid (Op.stringOp .add S (YtchinflkjcebjaaGreatDoor.bk (bhS (lt (gapAt G k)))) = pure (.string S1)) := k1
        have k3' : Hid (Op.stringOp .add S1 ⟨#[10]⟩ = pure (.string S2)) := k3
        clear e t1 ok k1 k2 k3 hS HC HC2 EC CNE HD slj HS H3 h92 hbox
        generalize YtchinflkjcebjaaGreatDoor.bk (bhS (lt (gapAt G k))) = X at k1' HB1
        generalize gapAt G k = Gk at o1 HB1
        go_wp2_with fail
        refine o1.mono ?_
        rintro e W2 ⟨rfl, hw2⟩
        have hb2 : Hid (Below W1.heap.size W1 W2) := below2 hb.out hw2
        have o2 := HB1.out W2
        clear o1 x0 x1 x2 x3 x4 hb hw2 HB1
        go_wp2_with fail
        refine o2.mono ?_
        rintro e W3 ⟨rfl, hw3⟩
        have hb3 : Hid (Below W1.heap.size W1 W3) := below2 hb2.out hw3
        have k2 := k1'.out
        have k4 := k3'.out
        clear o2 hb2 hw3 k1' k3'
        go_wp2
        exact ⟨⟨S2, true, k + 1, j + 1, rfl, rfl, by go_num, by go_num, by omega, by omega, HS2, hb3⟩, by simp [intOf]; omega⟩
      | false =>
        have t0 := sp_feed (gS G) k ((lt T).drop (j + 1))
        have t1 := t0
        clear t0
        have ok := hS.out.ok
        rw [e, t1.2] at ok
        obtain ⟨S1, S2, k1, k3, k2⟩ := hS.out.go2 (x := bhS (gS G k)) (y := [10]) (b' := false) (k' := k + 1) (j' := j + 1) HL.out (by rw [e, t1.1]; rfl) ok
        have HS2 : Hid (SpI F (gS G) (lt T) S2 false (k + 1) (j + 1)) := k2
        have hbox := H1.out.1.next hb.out
        obtain ⟨x0, x1, x2, x3, x4⟩ := hbox.cs
        have o1 := H3.out wr k (by omega) hb.out
        have HB1 : Hid (∀ W : World, Calls Tryz.prog 34 #[.string (gapAt G k)] W fun e w' => e = .returned (.string (YtchinflkjcebjaaGreatDoor.bk (bhS (lt (gapAt G k))))) ∧ Below W.heap.size W w') := fun W => behind_any (gapAt G k) W (HS.out k)
        have k1' : Hid (Op.stringOp .add S (YtchinflkjcebjaaGreatDoor.bk (bhS (lt (gapAt G k)))) = pure (.string S1)) := k1
        have k3' : Hid (Op.stringOp .add S1 ⟨#[10]⟩ = pure (.string S2)) := k3
        clear e t1 ok k1 k2 k3 hS HC HC2 EC CNE HD slj HS H3 h92 hbox
        generalize YtchinflkjcebjaaGreatDoor.bk (bhS (lt (gapAt G k))) = X at k1' HB1
        generalize gapAt G k = Gk at o1 HB1
        go_wp2_with fail
        refine o1.mono ?_
        rintro e W2 ⟨rfl, hw2⟩
        have hb2 : Hid (Below W1.heap.size W1 W2) := below2 hb.out hw2
        have o2 := HB1.out W2
        clear o1 x0 x1 x2 x3 x4 hb hw2 HB1
        go_wp2_with fail
        refine o2.mono ?_
        rintro e W3 ⟨rfl, hw3⟩
        have hb3 : Hid (Below W1.heap.size W1 W3) := below2 hb2.out hw3
        have k2 := k1'.out
        have k4 := k3'.out
        clear o2 hb2 hw3 k1' k3'
        go_wp2
        exact ⟨⟨S2, false, k + 1, j + 1, rfl, rfl, by go_num, by go_num, by omega, by omega, HS2, hb3⟩, by simp [intOf]; omega⟩
    have m10 : ¬ (c.toNat : Int) = 10 := CNE.out 10 (by decide) h10
    have n10 : ((c.toNat : Int) == 10) = false := by rw [beq_eq_false_iff_ne]; exact m10
    have e := HC.out _ EC.out
    have t1 := sp_cons (g := gS G) (n := k) (c := c) (r := (lt T).drop (j + 1)) (q := b) h92 h34 h32 h10
    have ok := hS.out.ok
    rw [e, t1.2] at ok
    obtain ⟨S2, k1, k2⟩ := hS.out.go (x := [c]) (b' := b) (k' := k) (j' := j + 1) HL.out (by rw [e, t1.1]; rfl) ok
    have HS2 : Hid (SpI F (gS G) (lt T) S2 b k (j + 1)) := k2
    clear e t1 ok k2 hS HC HC2 EC HD HS H3
    cases b with
    | true =>
      have m92 : ¬ (c.toNat : Int) = 92 := CNE.out 92 (by decide) (fun q => h92 ⟨rfl, q⟩)
      have n92 : ((c.toNat : Int) == 92) = false := by rw [beq_eq_false_iff_ne]; exact m92
      clear CNE h92 h34 h32 h10
      generalize YtchinflkjcebjaaGreatDoor.bk [c] = X at k1 slj
      generalize c.toNat = cn at *
      by_cases h3 : (cn : Int) = 32
      · have b3 : ((cn : Int) == 32) = true := by rw [beq_iff_eq]; exact h3
        go_wp2
        exact ⟨⟨S2, true, k, j + 1, rfl, rfl, rfl, by go_num, by omega, by omega, HS2, hb⟩, by simp [intOf]; omega⟩
      · have b3 : ((cn : Int) == 32) = false := by rw [beq_eq_false_iff_ne]; exact h3
        go_wp2
        exact ⟨⟨S2, true, k, j + 1, rfl, rfl, rfl, by go_num, by omega, by omega, HS2, hb⟩, by simp [intOf]; omega⟩
    | false =>
      have m32 : ¬ (c.toNat : Int) = 32 := CNE.out 32 (by decide) (fun q => h32 ⟨q, rfl⟩)
      have n32 : ((c.toNat : Int) == 32) = false := by rw [beq_eq_false_iff_ne]; exact m32
      clear CNE h92 h34 h32 h10
      generalize YtchinflkjcebjaaGreatDoor.bk [c] = X at k1 slj
      generalize c.toNat = cn at *
      go_wp2
      exact ⟨⟨S2, false, k, j + 1, rfl, rfl, rfl, by go_num, by omega, by omega, HS2, hb⟩, by simp [intOf]; omega⟩
end Go.Proofs.YtchinflkjcebjaaGreatDoor
