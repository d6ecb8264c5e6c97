import Derived.Test.YtichbejmelkjeaaGreatDoorP18
import Derived.Test.YtichbejmelkjeaaGreatDoorP17
import Derived.Test.YtichbejmelkjeaaGreatDoorP19
import Derived.Test.YtichbejmelkjeaaGreatDoorP20
namespace Go.Proofs.YtichbejmelkjeaaGreatDoor
open Go.RowKit

set_option maxRecDepth 100000 in
set_option maxHeartbeats 4000000 in
theorem rname_any (s : ByteArray) (w : World) (hs : s.size ≤ 4194304) (hT : Lx.RTabs w) :
    Calls Tryz.prog 68 #[.string s] w fun e w' => e = .returned (.bool ((whl s.data.toList).kind == 1)) ∧ Below w.heap.size w w' := by
  have hsl := Lib.size_eq s
  have HS0 := Lx.refScan_any s w hs hT
  obtain ⟨R, hR⟩ : ∃ R, Lx.scanS (s.data.toList.length + 1) 0 s.data.toList = R := ⟨_, rfl⟩
  rw [hsl, hR] at HS0
  clear hT hs
  obtain ⟨B, hB⟩ : ∃ B, ((whl s.data.toList).kind == 1) = B := ⟨_, rfl⟩
  rw [hB]
  cases hRc : R with
  | inl p =>
    obtain ⟨e, q⟩ := p
    rw [hRc] at HS0 hR
    have he := scan_inl _ _ _ _ _ hR
    have hef : ((e : Int) == 0) = false := by rw [beq_eq_false_iff_ne]; omega
    have hBf : B = false := by
      rw [← hB]; unfold whl; rw [hR]; rfl
    subst hBf
    have HS : Hid (Calls Tryz.prog 78 #[.string s] w fun x w' => x = .returned (.tuple #[.slice none 0 0, .agg #[.int .i64 (e : Int), .int .i64 (q : Int)]]) ∧ Below w.heap.size w w') := HS0
    clear HS0 hR hRc hsl hB he
    go_enter Tryz.func68, Tryz.ntmps68
    go_wp2_with fail
    refine HS.out.mono ?_
    rintro x w2 ⟨rfl, hb2⟩
    obtain ⟨W3, hW3⟩ : ∃ W3, w2.alloc (.cells #[.int .i64 (e : Int), .int .i64 (q : Int)] 126) = W3 := ⟨_, rfl⟩
    have b3 : Below w.heap.size w W3 := by rw [← hW3]; exact hb2.alloc hb2.size _
    have f3 : Full W3 w2.heap.size 126 [.int .i64 (e : Int), .int .i64 (q : Int)] := by rw [← hW3]; exact Full.new w2 _ _
    have d0 := (f3.cell 0 _ rfl).1
    have HB3 : Hid (Below w.heap.size w W3) := b3
    clear b3 f3 hb2
    go_wp2
    go_ret
    exact ⟨rfl, HB3.out⟩
  | inr L =>
    rw [hRc] at HS0 hR
    obtain ⟨⟨k, x⟩, t, rfl⟩ := scan_inr _ _ _ _ hR
    obtain ⟨kd, ln, tx, it⟩ := x
    have HS : Hid (Calls Tryz.prog 78 #[.string s] w fun y w' => ∃ q c, y = .returned (.tuple #[.slice (some ⟨q, 0, none⟩) (t.length + 1 : Nat) c, .agg #[.int .i64 0, .int .i64 0]]) ∧ t.length + 1 ≤ c ∧ Hid (w'.cell? ⟨q, 0, none⟩ = some (.int .i64 (kd : Int)) ∧ w'.cell? ⟨q, 1, none⟩ = some (.int .i64 (k : Int)) ∧ w'.cell? ⟨q, 2, none⟩ = some (.int .i64 ((k : Int) + (ln : Int)))) ∧ Below w.heap.size w w') := by
      refine Calls.mono HS0 ?_
      rintro y w' ⟨v, rfl, ho, hb⟩
      obtain ⟨q, cap, rfl, hc, hr⟩ := own_slice ho
      obtain ⟨g, rfl, hr2⟩ := hr (by simp)
      have at_ : ∀ j u, (Lx.toksV ((k, ⟨kd, ln, tx, it⟩) :: t))[j]? = some u → w'.cell? ⟨g, j, none⟩ = some u := fun j u hu => by have := hr2 j u hu; rwa [Nat.zero_add] at this
      exact ⟨g, cap, rfl, hc, ⟨at_ 0 _ rfl, at_ 1 _ rfl, at_ 2 _ rfl⟩, hb⟩
    have hyes : kd = 1 → k = 0 → ln = s.size → B = true := fun h1 h2 h3 => by
      rw [← hB]; unfold whl; rw [hR]; simp only
      rw [if_pos ⟨h2, by omega⟩, h1]; rfl
    have hno : ¬ (t.length + 1 = 2 ∧ kd = 1 ∧ k = 0 ∧ ln = s.size) → B = false := fun hn => by
      cases hBB : B with
      | false => rfl
      | true =>
        exfalso
        rw [hBB] at hB
        have hk : (whl s.data.toList).kind = 1 := by simpa using hB
        have h1 := whl_scan (w := s.data.toList) (by omega)
        obtain ⟨-, h2, -⟩ := whl_tok (w := s.data.toList) (by omega)
        rw [hR] at h1
        injection h1 with h1
        simp only [List.cons.injEq, Prod.mk.injEq] at h1
        obtain ⟨⟨h3, h4⟩, h5⟩ := h1
        rw [← h4] at h2 hk
        simp only at h2 hk
        exact hn ⟨by rw [h5]; rfl, hk, h3, by omega⟩
    clear HS0 hR hRc hB
    obtain ⟨m, hm⟩ : ∃ m, t.length + 1 = m := ⟨_, rfl⟩
    rw [hm] at HS hno
    have hm1 : 1 ≤ m := by omega
    have hm0 : (0 : Int) < (m : Int) := by omega
    clear hm hsl
    by_cases h2 : m = 2
    · by_cases hk1 : kd = 1
      · by_cases hk : k = 0
        · by_cases hl : ln = s.size
          · have hBt := hyes hk1 hk hl
            subst h2 hk1 hk hl hBt
            clear hyes hno
            go_enter Tryz.func68, Tryz.ntmps68
            go_wp2_with fail
            refine HS.out.mono ?_
            rintro y w2 ⟨q, cp, rfl, hnc, hcs, hb2⟩
            obtain ⟨W3, hW3⟩ : ∃ W3, w2.alloc (.cells #[.int .i64 0, .int .i64 0] 126) = W3 := ⟨_, rfl⟩
            have n3 : Below w2.heap.size w2 W3 := by rw [← hW3]; exact (Below.refl _ w2).alloc (Nat.le_refl _) _
            have HB3 : Hid (Below w.heap.size w W3) := hb2.trans (n3.mono hb2.size)
            have f3 : Full W3 w2.heap.size 126 [.int .i64 0, .int .i64 0] := by rw [← hW3]; exact Full.new w2 _ _
            have d0 := (f3.cell 0 _ rfl).1
            obtain ⟨x0, x1, x2⟩ := hcs.out
            have up : ∀ j u, w2.cell? ⟨q, j, none⟩ = some u → W3.cell? ⟨q, j, none⟩ = some u := fun j u hu => (n3.cell (p := ⟨q, j, none⟩) (World.block_lt_of_cell? w2 _ hu)).trans hu
            have y0 := up _ _ x0
            have y1 := up _ _ x1
            have y2 := up _ _ x2
            clear x0 x1 x2 up hcs n3 f3 hb2
            subst hW3
            go_wp2
            go_ret
            exact ⟨rfl, HB3.out⟩
          · have hBf := hno (by omega)
            have hlf : ((ln : Int) == (s.size : Int)) = false := by rw [beq_eq_false_iff_ne]; omega
            subst h2 hk1 hk hBf
            clear hyes hno
            go_enter Tryz.func68, Tryz.ntmps68
            go_wp2_with fail
            refine HS.out.mono ?_
            rintro y w2 ⟨q, cp, rfl, hnc, hcs, hb2⟩
            obtain ⟨W3, hW3⟩ : ∃ W3, w2.alloc (.cells #[.int .i64 0, .int .i64 0] 126) = W3 := ⟨_, rfl⟩
            have n3 : Below w2.heap.size w2 W3 := by rw [← hW3]; exact (Below.refl _ w2).alloc (Nat.le_refl _) _
            have HB3 : Hid (Below w.heap.size w W3) := hb2.trans (n3.mono hb2.size)
            have f3 : Full W3 w2.heap.size 126 [.int .i64 0, .int .i64 0] := by rw [← hW3]; exact Full.new w2 _ _
            have d0 := (f3.cell 0 _ rfl).1
            obtain ⟨x0, x1, x2⟩ := hcs.out
            have up : ∀ j u, w2.cell? ⟨q, j, none⟩ = some u → W3.cell? ⟨q, j, none⟩ = some u := fun j u hu => (n3.cell (p := ⟨q, j, none⟩) (World.block_lt_of_cell? w2 _ hu)).trans hu
            have y0 := up _ _ x0
            have y1 := up _ _ x1
            have y2 := up _ _ x2
            clear x0 x1 x2 up hcs n3 f3 hb2
            subst hW3
            go_wp2
            go_ret
            exact ⟨rfl, HB3.out⟩
        · have hBf := hno (by omega)
          have hkf : ((k : Int) == 0) = false := by rw [beq_eq_false_iff_ne]; omega
          subst h2 hk1 hBf
          clear hyes hno
          go_enter Tryz.func68, Tryz.ntmps68
          go_wp2_with fail
          refine HS.out.mono ?_
          rintro y w2 ⟨q, cp, rfl, hnc, hcs, hb2⟩
          obtain ⟨W3, hW3⟩ : ∃ W3, w2.alloc (.cells #[.int .i64 0, .int .i64 0] 126) = W3 := ⟨_, rfl⟩
          have n3 : Below w2.heap.size w2 W3 := by rw [← hW3]; exact (Below.refl _ w2).alloc (Nat.le_refl _) _
          have HB3 : Hid (Below w.heap.size w W3) := hb2.trans (n3.mono hb2.size)
          have f3 : Full W3 w2.heap.size 126 [.int .i64 0, .int .i64 0] := by rw [← hW3]; exact Full.new w2 _ _
          have d0 := (f3.cell 0 _ rfl).1
          obtain ⟨x0, x1, x2⟩ := hcs.out
          have up : ∀ j u, w2.cell? ⟨q, j, none⟩ = some u → W3.cell? ⟨q, j, none⟩ = some u := fun j u hu => (n3.cell (p := ⟨q, j, none⟩) (World.block_lt_of_cell? w2 _ hu)).trans hu
          have y0 := up _ _ x0
          have y1 := up _ _ x1
          have y2 := up _ _ x2
          clear x0 x1 x2 up hcs n3 f3 hb2
          subst hW3
          go_wp2
          go_ret
          exact ⟨rfl, HB3.out⟩
      · have hBf := hno (by omega)
        have hkf : ((kd : Int) == 1) = false := by rw [beq_eq_false_iff_ne]; omega
        subst h2 hBf
        clear hyes hno
        go_enter Tryz.func68, Tryz.ntmps68
        go_wp2_with fail
        refine HS.out.mono ?_
        rintro y w2 ⟨q, cp, rfl, hnc, hcs, hb2⟩
        obtain ⟨W3, hW3⟩ : ∃ W3, w2.alloc (.cells #[.int .i64 0, .int .i64 0] 126) = W3 := ⟨_, rfl⟩
        have n3 : Below w2.heap.size w2 W3 := by rw [← hW3]; exact (Below.refl _ w2).alloc (Nat.le_refl _) _
        have HB3 : Hid (Below w.heap.size w W3) := hb2.trans (n3.mono hb2.size)
        have f3 : Full W3 w2.heap.size 126 [.int .i64 0, .int .i64 0] := by rw [← hW3]; exact Full.new w2 _ _
        have d0 := (f3.cell 0 _ rfl).1
        obtain ⟨x0, x1, x2⟩ := hcs.out
        have up : ∀ j u, w2.cell? ⟨q, j, none⟩ = some u → W3.cell? ⟨q, j, none⟩ = some u := fun j u hu => (n3.cell (p := ⟨q, j, none⟩) (World.block_lt_of_cell? w2 _ hu)).trans hu
        have y0 := up _ _ x0
        have y1 := up _ _ x1
        have y2 := up _ _ x2
        clear x0 x1 x2 up hcs n3 f3 hb2
        subst hW3
        go_wp2
        go_ret
        exact ⟨rfl, HB3.out⟩
    · have hBf := hno (by omega)
      have hmf : ((m : Int) == 2) = false := by rw [beq_eq_false_iff_ne]; omega
      have hmn : ¬ (m : Int) = 2 := by omega
      subst hBf
      clear hyes hno
      go_enter Tryz.func68, Tryz.ntmps68
      go_wp2_with fail
      refine HS.out.mono ?_
      rintro y w2 ⟨q, cp, rfl, hnc, hcs, hb2⟩
      obtain ⟨W3, hW3⟩ : ∃ W3, w2.alloc (.cells #[.int .i64 0, .int .i64 0] 126) = W3 := ⟨_, rfl⟩
      have n3 : Below w2.heap.size w2 W3 := by rw [← hW3]; exact (Below.refl _ w2).alloc (Nat.le_refl _) _
      have HB3 : Hid (Below w.heap.size w W3) := hb2.trans (n3.mono hb2.size)
      have f3 : Full W3 w2.heap.size 126 [.int .i64 0, .int .i64 0] := by rw [← hW3]; exact Full.new w2 _ _
      have d0 := (f3.cell 0 _ rfl).1
      clear hcs n3 f3 hb2
      subst hW3
      go_wp2
      go_ret
      exact ⟨rfl, HB3.out⟩
end Go.Proofs.YtichbejmelkjeaaGreatDoor

namespace Go.Proofs.YtichbejmelkjeaaGreatDoor
open Go.RowKit

theorem pos_minus (r : List UInt8) : (posO (45 :: r)).2 = decide (1 ≤ rnS r) ∧ (1 ≤ rnS r → (posO (45 :: r)).1 = IntKind.i64.wrap (-(rnS r))) := by
  show ((numO r).2 && decide (1 ≤ (numO r).1)) = decide (1 ≤ rnS r) ∧ (1 ≤ rnS r → IntKind.i64.wrap (-(numO r).1) = IntKind.i64.wrap (-(rnS r)))
  cases h : (numO r).2 with
  | true =>
    obtain ⟨h1, h2, -⟩ := rn_yes h
    rw [h1]; exact ⟨by simp, fun _ => rfl⟩
  | false =>
    rw [rn_not h]
    exact ⟨by simp, fun h => by omega⟩
theorem pos_plain (L : List UInt8) (h : ∀ r, r ≠ [] → L ≠ 45 :: r) : (posO L).2 = decide (0 ≤ rnS L) ∧ (0 ≤ rnS L → (posO L).1 = rnS L) := by
  have key : ∀ L : List UInt8, (numO L).2 = decide (0 ≤ rnS L) ∧ (0 ≤ rnS L → (numO L).1 = rnS L) := fun L => by
    cases h : (numO L).2 with
    | true =>
      obtain ⟨h1, h2, -⟩ := rn_yes h
      rw [h1]; exact ⟨by simp [h2], fun _ => rfl⟩
    | false =>
      rw [rn_not h]
      exact ⟨by simp, fun h => by omega⟩
  by_cases h45 : L = [45]
  · subst h45
    have e1 : (posO [45]).2 = false := by
      show ((numO []).2 && decide (1 ≤ (numO []).1)) = false
      have : (numO []).2 = false := by decide +kernel
      rw [this]; rfl
    have e2 : rnS [45] = -1 := by
      unfold rnS; rw [if_pos]
      exact .inr (.inr (.inr (.inl ⟨45, by simp, by decide⟩)))
    rw [e1, e2]
    exact ⟨by simp, fun h => by omega⟩
  · have e : posO L = numO L := by
      unfold posO
      split
      · rename_i r
        exact absurd rfl (h r (fun e => h45 (by rw [e])))
      · rfl
    rw [e]; exact key L

set_option maxRecDepth 100000 in
set_option maxHeartbeats 4000000 in
theorem rfar_any (s : ByteArray) (w : World) : Calls Tryz.prog 54 #[.string s] w fun e w' => ∃ (n : Int) (b : Bool), e = .returned (.tuple #[.int .i64 n, .bool b]) ∧ Hid (b = (posO s.data.toList).2 ∧ (b = true → n = (posO s.data.toList).1)) ∧ w' = w := by
  have hsz := Lib.size_eq s
  by_cases h1 : 1 < s.size
  · have q1 : (1 : Int) < (s.size : Int) := by omega
    have hp : 0 < s.size := by omega
    have hp1 : (0 : Int) < (s.size : Int) := by omega
    obtain ⟨c0, hc0⟩ : ∃ c, s[0]'hp = c := ⟨_, rfl⟩
    have hdr := Lx.drop_at s 0 hp
    rw [List.drop_zero, hc0] at hdr
    by_cases h45 : c0 = 45
    · obtain ⟨t, ht⟩ : ∃ t : ByteArray, t.data.toList = s.data.toList.drop 1 := ⟨⟨(s.data.toList.drop 1).toArray⟩, rfl⟩
      have R1 : ∀ wx : World, (Instr.slice 9 (.string s) (some (.int .i64 1)) none none).run Tryz.prog wx = .ok (.string t) wx := sl_from (s := s) (x := t) (k := 1) (by omega) ht
      have hP := pos_minus t.data.toList
      rw [ht, ← h45, ← hdr, ← ht] at hP
      have HP : Hid _ := hP
      have HC := rnum_any t w
      generalize rnS t.data.toList = N at HP HC
      subst h45
      clear hsz h1 hP ht hdr
      go_enter Tryz.func54, Tryz.ntmps54
      go_wp2_with fail
      refine HC.mono ?_
      rintro e w1 ⟨rfl, hw1⟩
      subst hw1
      clear HC
      go_wp2
      go_ret2
      exact ⟨_, _, rfl, ⟨HP.out.1.symm, fun h => by rw [HP.out.2 (by simpa using h)]; first | rfl | exact w64_eq _⟩, rfl⟩
    · have q2 : ((c0.toNat : Int) == 45) = false := by
        rw [beq_eq_false_iff_ne]
        intro e
        exact h45 (UInt8.toNat_inj.1 (by show c0.toNat = 45; omega))
      have hP := pos_plain s.data.toList (fun r _ e => by rw [hdr] at e; injection e with e1 _; exact h45 e1)
      have HP : Hid _ := hP
      have HC := rnum_any s w
      generalize rnS s.data.toList = N at HP HC
      clear hsz h1 hP hdr h45
      go_enter Tryz.func54, Tryz.ntmps54
      go_wp2_with fail
      refine HC.mono ?_
      rintro e w1 ⟨rfl, hw1⟩
      subst hw1
      clear HC
      go_wp2
      go_ret2
      exact ⟨_, _, rfl, ⟨HP.out.1.symm, fun h => by rw [HP.out.2 (by simpa using h)]⟩, rfl⟩
  · have q1 : ¬ (1 : Int) < (s.size : Int) := by omega
    have hP := pos_plain s.data.toList (fun r hr e => by
      rw [e, List.length_cons] at hsz
      have : r.length ≠ 0 := fun h => hr (List.eq_nil_of_length_eq_zero h)
      omega)
    have HP : Hid _ := hP
    have HC := rnum_any s w
    generalize rnS s.data.toList = N at HP HC
    clear hsz h1 hP
    go_enter Tryz.func54, Tryz.ntmps54
    go_wp2_with fail
    refine HC.mono ?_
    rintro e w1 ⟨rfl, hw1⟩
    subst hw1
    clear HC
    go_wp2
    go_ret2
    exact ⟨_, _, rfl, ⟨HP.out.1.symm, fun h => by rw [HP.out.2 (by simpa using h)]⟩, rfl⟩
end Go.Proofs.YtichbejmelkjeaaGreatDoor

namespace Go.Proofs.YtichbejmelkjeaaGreatDoor
open Go.RowKit

/-- The document's words in memory. -/
structure WdA (w : World) (q : Option Addr) (cap : Nat) (ws : List (List UInt8 × Nat)) : Prop where
  le : ws.length ≤ cap
  at_ : 0 < ws.length → ∃ g, q = some ⟨g, 0, none⟩ ∧ w.rangeAt g 0 (ws.flatMap wdV)
  sm : ∀ x ∈ ws, x.1.length ≤ 300 ∧ x.2 ≤ 300
  few : ws.length ≤ 300
theorem WdA.next {w w' : World} {q : Option Addr} {cap : Nat} {ws : List (List UInt8 × Nat)} (h : WdA w q cap ws) (hb : Below w.heap.size w w') : WdA w' q cap ws := by
  refine ⟨h.le, fun hl => ?_, h.sm, h.few⟩
  obtain ⟨g, hq, hr⟩ := h.at_ hl
  exact ⟨g, hq, fun j v hv => by have := hr j v hv; exact (hb.cell (p := ⟨g, 0 + j, none⟩) (World.block_lt_of_cell? w _ this)).trans this⟩
theorem wd_flat : ∀ (ws : List (List UInt8 × Nat)) (j : Nat) (x : List UInt8 × Nat), ws[j]? = some x → (ws.flatMap wdV)[j * 2]? = some (sV x.1) ∧ (ws.flatMap wdV)[j * 2 + 1]? = some (.int .i64 (x.2 : Int)) := by
  intro ws
  induction ws with
  | nil => intro j x h; cases h
  | cons a r ih =>
    intro j x h
    cases j with
    | zero =>
      rw [List.getElem?_cons_zero] at h
      cases h
      exact ⟨rfl, rfl⟩
    | succ j =>
      rw [List.getElem?_cons_succ] at h
      obtain ⟨h1, h2⟩ := ih j x h
      rw [List.flatMap_cons]
      refine ⟨?_, ?_⟩
      · rw [List.getElem?_append_right (by simp [wdV]; omega), ← h1]; simp [wdV]; congr 1; omega
      · rw [List.getElem?_append_right (by simp [wdV]; omega), ← h2]; simp [wdV]; congr 1; omega
theorem WdA.cell {w : World} {g cap : Nat} {ws : List (List UInt8 × Nat)} (h : WdA w (some ⟨g, 0, none⟩) cap ws) (j : Nat) (x : ByteArray) (a : Nat) (hx : ws[j]? = some (x.data.toList, a)) : w.cell? ⟨g, j * 2, none⟩ = some (.string x) ∧ w.cell? ⟨g, j * 2 + 1, none⟩ = some (.int .i64 (a : Int)) := by
  have hl : 0 < ws.length := by have := (List.getElem?_eq_some_iff.1 hx).1; omega
  obtain ⟨g', hq, hr⟩ := h.at_ hl
  cases hq
  obtain ⟨h1, h2⟩ := wd_flat ws j _ hx
  have e1 := hr _ _ h1
  have e2 := hr _ _ h2
  rw [Nat.zero_add] at e1 e2
  exact ⟨e1, e2⟩
theorem endS_last : ∀ (ws : List (List UInt8 × Nat)) (m : Nat) (x : List UInt8 × Nat), ws.length = m + 1 → ws[m]? = some x → endS ws = x.2 + x.1.length := by
  intro ws
  induction ws with
  | nil => intro m x h; simp at h
  | cons a r ih =>
    intro m x h hx
    cases r with
    | nil =>
      simp at h
      subst h
      rw [List.getElem?_cons_zero] at hx
      cases hx
      rfl
    | cons b r =>
      obtain ⟨m, rfl⟩ : ∃ k, m = k + 1 := ⟨m - 1, by simp at h; omega⟩
      rw [List.getElem?_cons_succ] at hx
      exact ih m x (by simpa using h) hx

set_option maxRecDepth 100000 in
set_option maxHeartbeats 4000000 in
theorem rend_any {g cap : Nat} {ws : List (List UInt8 × Nat)} {w : World} (hA : WdA w (some ⟨g, 0, none⟩) cap ws) (hne : 0 < ws.length) :
    Calls Tryz.prog 52 #[.slice (some ⟨g, 0, none⟩) ws.length cap] w fun e w' => e = .returned (.int .i64 (endS ws : Int)) ∧ Below w.heap.size w w' := by
  obtain ⟨m, hm⟩ : ∃ m, ws.length = m + 1 := ⟨ws.length - 1, by omega⟩
  obtain ⟨x, hx⟩ : ∃ x, ws[m]? = some x := ⟨ws[m]'(by omega), List.getElem?_eq_getElem _⟩
  obtain ⟨t, a⟩ := x
  obtain ⟨y, hy⟩ : ∃ y : ByteArray, y.data.toList = t := ⟨⟨t.toArray⟩, rfl⟩
  have hE : endS ws = a + y.size := by rw [endS_last ws m _ hm hx, Lib.size_eq, hy]
  obtain ⟨c0, c1⟩ := hA.cell m y a (by rw [hy]; exact hx)
  have hsm := hA.sm _ (List.mem_of_getElem? hx)
  simp only at hsm
  have hys : y.size ≤ 300 := by rw [Lib.size_eq, hy]; exact hsm.1
  have has := hsm.2
  have hle := hA.le
  have hfw := hA.few
  rw [hE]
  obtain ⟨n, hn⟩ : ∃ n, ws.length = n := ⟨_, rfl⟩
  rw [hn] at hm hle hfw ⊢
  have e1 : (n : Int) - 1 = (m : Int) := by omega
  have e2 : IntKind.i64.wrap ((n : Int) - 1) = (m : Int) := by rw [IntKind.wrap_i64]; omega
  have e3 : (m : Int) < (n : Int) := by omega
  have e4 : (0 : Int) ≤ (m : Int) := by omega
  obtain ⟨X, hX⟩ : ∃ X, w.alloc (.cells #[.string y, .int .i64 (a : Int)] 94) = X := ⟨_, rfl⟩
  have b1 : Below w.heap.size w X := by rw [← hX]; exact (Below.refl _ w).alloc (Nat.le_refl _) _
  have f1 : Full X w.heap.size 94 [.string y, .int .i64 (a : Int)] := by rw [← hX]; exact Full.new w _ _
  have d0 := (f1.cell 0 _ rfl).1
  have d1 := (f1.cell 1 _ rfl).1
  clear hA hne hx hy hE hsm hm f1 hn
  go_enter Tryz.func52, Tryz.ntmps52
  go_wp2
  go_ret
  exact ⟨by rfl, b1⟩
end Go.Proofs.YtichbejmelkjeaaGreatDoor

namespace Go.Proofs.YtichbejmelkjeaaGreatDoor
open Go.RowKit

theorem callEnd (a : Value) (w : World) : (callFunc 52 #[a]).run Tryz.prog w = .ok (.enter 52 #[a]) w := by kernel_rfl
/-- A word and what the line says from it on. -/
def WR (L : List UInt8) (E : Nat) (x : List UInt8 × Nat) (r : List UInt8) : Prop := x.1 = wrd r ∧ x.2 ≤ E ∧ r = (L.take E).drop x.2
theorem F2.len {α β : Type} {R : α → β → Prop} {l : List α} {m : List β} (h : F2 R l m) : l.length = m.length := by
  induction h with
  | nil => rfl
  | cons _ _ ih => simp [ih]
theorem F2.get {α β : Type} {R : α → β → Prop} {l : List α} {m : List β} (h : F2 R l m) : ∀ (j : Nat) (b : β), m[j]? = some b → ∃ a, l[j]? = some a ∧ R a b := by
  induction h with
  | nil => intro j b hb; cases hb
  | cons h _ ih =>
    intro j b hb
    cases j with
    | zero => rw [List.getElem?_cons_zero] at hb; cases hb; exact ⟨_, rfl, h⟩
    | succ j => rw [List.getElem?_cons_succ] at hb ⊢; exact ih j b hb
/-- What is broken at or watched, by the rests. -/
def pntR (t : Nat) (R : List (List UInt8)) : Option Cm := match R with
  | [_, r1] => pntO t (wrd r1) []
  | _ :: r1 :: r2 :: r3 :: _ => if wrd r2 = ifw then pntO t (wrd r1) r3 else none
  | _ => none
theorem ret_rpt {w : World} {B : Nat} {a b c d e x : Value} {tm : Array Value} (hf : Full w B 49 [a, b, c, d, e]) (h4 : tm[6]?.getD undef = .pointer (some ⟨B, 0, none⟩)) (h5 : tm[7]?.getD undef = x) :
    (results Tryz.f51 tm).run Tryz.prog w = .ok (.tuple #[.agg #[a, b, c, d, e], x]) w := by
  have c0 := (hf.cell 0 _ rfl).1
  have c1 := (hf.cell 1 _ rfl).1
  have c2 := (hf.cell 2 _ rfl).1
  have c3 := (hf.cell 3 _ rfl).1
  have c4 := (hf.cell 4 _ rfl).1
  simp [results, Tryz.results51, go_sem, h4, h5, c0, c1, c2, c3, c4]
/-- What point answers. -/
def RptP (w : World) (t : Nat) (R : List (List UInt8)) (e : Ending) (w' : World) : Prop :=
  ∃ (p1 p2 : Int) (p3 p4 : ByteArray) (b : Bool), e = .returned (.tuple #[.agg #[.int .i64 p1, .int .i64 p2, .string p3, .string p4, .bool false], .bool b]) ∧ Hid (((b = true ∧ pntR t R = some ⟨0, p1, p2, p3.data.toList, p4.data.toList, false, 0, []⟩) ∨ (b = false ∧ pntR t R = none)) ∧ Below w.heap.size w w')
structure PtI (w W : World) (B : Nat) (L : List Value) : Prop where
  f1 : Full W w.heap.size 49 [.int .i64 0, .int .i64 0, .string ⟨#[]⟩, .string ⟨#[]⟩, .bool false]
  f2 : Full W B 49 L
  b : Below w.heap.size w W
  lt : w.heap.size < B
theorem PtI.next {w W W' : World} {B : Nat} {L : List Value} (h : PtI w W B L) (hb : Below W.heap.size W W') : PtI w W' B L := ⟨h.f1.next hb, h.f2.next hb, h.b.trans (hb.mono h.b.size), h.lt⟩
theorem PtI.put {w W : World} {B : Nat} {a d : List Value} {x : Value} (h : PtI w W B (a ++ (x :: d))) (v : Value) : PtI w (W.setCell ⟨B, a.length, none⟩ v) B (a ++ (v :: d)) :=
  ⟨h.f1.other1 (Nat.ne_of_lt h.lt), h.f2.put1 v, h.b.setCell (p := ⟨B, a.length, none⟩) (Nat.le_of_lt h.lt) _, h.lt⟩

set_option maxRecDepth 100000 in
set_option maxHeartbeats 8000000 in
theorem rpoint_any (k : Nat) (hk : k = 1 ∨ k = 2) (l : ByteArray) {g cap E : Nat} {ws : List (List UInt8 × Nat)} {R : List (List UInt8)} {w : World} (hA : WdA w (some ⟨g, 0, none⟩) cap ws) (hpos : 0 < ws.length) (hE : endS ws = E) (hEl : E ≤ l.size) (hF : F2 (WR l.data.toList E) ws R) (hT : Lx.RTabs w) :
    Calls Tryz.prog 51 #[.int .i64 (k : Int), .string l, .slice (some ⟨g, 0, none⟩) ws.length cap] w (RptP w (k + 1) R) := by
  obtain ⟨X1, hX1⟩ : ∃ X1, w.alloc (.cells #[.int .i64 0, .int .i64 0, .string ⟨#[]⟩, .string ⟨#[]⟩, .bool false] 49) = X1 := ⟨_, rfl⟩
  have b1 : Below w.heap.size w X1 := by rw [← hX1]; exact (Below.refl _ w).alloc (Nat.le_refl _) _
  have f1 : Full X1 w.heap.size 49 [.int .i64 0, .int .i64 0, .string ⟨#[]⟩, .string ⟨#[]⟩, .bool false] := by rw [← hX1]; exact Full.new w _ _
  have z1 : X1.heap.size = w.heap.size + 1 := by rw [← hX1]; simp
  obtain ⟨X2, hX2⟩ : ∃ X2, X1.alloc (.cells #[.int .i64 3, .int .i64 0, .string ⟨#[]⟩, .string ⟨#[]⟩, .bool false] 49) = X2 := ⟨_, rfl⟩
  have n2 : Below X1.heap.size X1 X2 := by rw [← hX2]; exact (Below.refl _ X1).alloc (Nat.le_refl _) _
  have f2 : Full X2 X1.heap.size 49 [.int .i64 3, .int .i64 0, .string ⟨#[]⟩, .string ⟨#[]⟩, .bool false] := by rw [← hX2]; exact Full.new X1 _ _
  have HI2 : Hid (PtI w X2 X1.heap.size [.int .i64 3, .int .i64 0, .string ⟨#[]⟩, .string ⟨#[]⟩, .bool false]) := ⟨f1.next n2, f2, b1.trans (n2.mono b1.size), by omega⟩
  have hb2 : Below w.heap.size w X2 := HI2.out.b
  have hAX := hA.next hb2
  have hTX := hT.next hb2
  have hle := hA.le
  have hlen := hF.len
  obtain ⟨n, hn⟩ : ∃ n, ws.length = n := ⟨_, rfl⟩
  rw [hn] at hle hlen ⊢
  by_cases hn2 : n < 2
  · have q1 : (n : Int) < 2 := by omega
    have HP : Hid (pntR (k + 1) R = none) := by
      show pntR (k + 1) R = none
      match R, hlen with
      | [a], _ => rfl
      | [], _ => rfl
      | _ :: _ :: _, h => simp only [List.length_cons] at h; omega
    obtain ⟨⟨g0, k0⟩, ⟨g1, k1⟩, ⟨g2, k2⟩, ⟨g3, k3⟩, ⟨g4, k4⟩⟩ := HI2.out.f1.cell5
    obtain ⟨⟨r0, s0⟩, ⟨r1, s1⟩, ⟨r2, s2⟩, ⟨r3, s3⟩, ⟨r4, s4⟩⟩ := HI2.out.f2.cell5
    clear hA hpos hE hEl hF hT b1 f1 z1 n2 f2 hb2 hAX hTX hlen hn hn2
    subst hX2
    go_enter Tryz.func51, Tryz.ntmps51
    go_wp2
    refine bodyPost_ret (by exact ret_rpt (HI2.out.f1.five _ _ _ _ _) rfl rfl) (by rfl) ?_
    unfold RptP
    exact ⟨3, 0, ⟨#[]⟩, ⟨#[]⟩, false, rfl, .inr ⟨rfl, HP.out⟩, below_fiveB HI2.out.b (Nat.le_refl _) _ _ _ _ _⟩
  have q1 : ¬ (n : Int) < 2 := by omega
  have q1' : ¬ n < 2 := hn2
  have q0 : (1 : Int) < (n : Int) := by omega
  obtain ⟨R0, R1, Rt, hR⟩ : ∃ a b c, R = a :: b :: c := by
    match R, hlen with
    | a :: b :: c, _ => exact ⟨a, b, c, rfl⟩
    | [a], h => simp at h; omega
    | [], h => simp at h; omega
  obtain ⟨⟨t1, a1⟩, hw1, hr1, -, -⟩ := hF.get 1 R1 (by rw [hR]; rfl)
  simp only at hr1
  obtain ⟨y1, hy1⟩ : ∃ y : ByteArray, y.data.toList = t1 := ⟨⟨t1.toArray⟩, rfl⟩
  have c1 := (hAX.cell 1 y1 a1 (by rw [hy1]; exact hw1)).1
  have hy1s : y1.size ≤ 300 := by rw [Lib.size_eq, hy1]; exact (hA.sm _ (List.mem_of_getElem? hw1)).1
  have hyr : y1.data.toList = wrd R1 := by rw [hy1, hr1]
  have HN1 : Hid (∀ W : World, Calls Tryz.prog 53 #[.string y1] W fun e w' => e = .returned (.int .i64 (rnS y1.data.toList)) ∧ w' = W) := fun W => rnum_any y1 W
  have HN2 : Hid (∀ W : World, Below X2.heap.size X2 W → Calls Tryz.prog 68 #[.string y1] W fun e w' => e = .returned (.bool ((whl y1.data.toList).kind == 1)) ∧ Below W.heap.size W w') := fun W hW => rname_any y1 W (by omega) (hTX.next hW)
  have hNy : ∀ e, pntO (k + 1) (wrd R1) e = if ((whl y1.data.toList).kind == 1) = true then some ⟨0, if k = 1 then 2 else 3, 0, y1.data.toList, e, false, 0, []⟩ else if k = 1 ∧ 1 ≤ rnS y1.data.toList then some ⟨0, 1, rnS y1.data.toList, [], e, false, 0, []⟩ else none := by
    intro e
    rw [← hyr]
    unfold pntO
    by_cases h1 : (whl y1.data.toList).kind = 1
    · rcases hk with rfl | rfl <;> simp [h1, (whl_name h1).1, cm0]
    · by_cases h2 : (whl y1.data.toList).kind = 2
      · have hy := rn_yes (w := y1.data.toList) (by unfold numO; simp [h2])
        have e1 : (numO y1.data.toList).1 = (whl y1.data.toList).int := rfl
        rw [e1] at hy
        rw [hy.1]
        rcases hk with rfl | rfl <;> simp [h2, cm0]
      · have hy := rn_not (w := y1.data.toList) (by unfold numO; simp [h2])
        rw [hy]
        rcases hk with rfl | rfl <;> simp [h1, h2]
  generalize rnS y1.data.toList = N at HN1 hNy
  generalize ((whl y1.data.toList).kind == 1) = nm at HN2 hNy
  have HNy : Hid (∀ e, pntO (k + 1) (wrd R1) e = _) := hNy
  have HR : Hid (R = R0 :: R1 :: Rt ∧ Rt.length + 2 = n ∧ ws.length = n) := ⟨hR, by rw [hR] at hlen; simp at hlen; omega, hn⟩
  have HF : Hid (F2 (WR l.data.toList E) ws R) := hF
  have HA : Hid (∀ W, Below w.heap.size w W → WdA W (some ⟨g, 0, none⟩) cap ws) := fun W hW => hA.next hW
  have HE : Hid (endS ws = E ∧ E ≤ l.size ∧ 0 < ws.length) := ⟨hE, hEl, hpos⟩
  have HkC : Hid (k = 1 ∨ k = 2) := hk
  have HX2 : Hid (X1.alloc (.cells #[.int .i64 3, .int .i64 0, .string ⟨#[]⟩, .string ⟨#[]⟩, .bool false] 49) = X2) := hX2
  have HB1 : Hid (w.heap.size < X1.heap.size) := by show _ < _; omega
  clear hA hpos hE hEl hF hT b1 f1 z1 n2 f2 hb2 hAX hTX hlen hn hn2 hNy hR hw1 hr1 hy1 hyr hk hX2
  go_enter Tryz.func51, Tryz.ntmps51
  go_upto_region 2 with fail
  rw [HX2.out]
  clear HX2 hX1
  go_wp2_with fail
  refine (HN1.out _).mono ?_
  rintro e w1 ⟨rfl, hw1⟩
  subst hw1
  clear HN1
  go_wp2_with fail
  refine (HN2.out _ (Below.refl _ _)).mono ?_
  rintro e w3 ⟨rfl, hb3⟩
  clear HN2
  have HI3 : Hid (PtI w w3 X1.heap.size [.int .i64 3, .int .i64 0, .string ⟨#[]⟩, .string ⟨#[]⟩, .bool false]) := HI2.out.next hb3
  obtain ⟨⟨g0, k0⟩, ⟨g1, k1⟩, ⟨g2, k2⟩, ⟨g3, k3⟩, ⟨g4, k4⟩⟩ := HI3.out.f1.cell5
  obtain ⟨⟨r0, s0⟩, ⟨r1, s1⟩, ⟨r2, s2⟩, ⟨r3, s3⟩, ⟨r4, s4⟩⟩ := HI3.out.f2.cell5
  generalize X1.heap.size = B at *
  clear HI2 c1 hb3
  have hq : (nm = true ∧ k = 1) ∨ (nm = true ∧ k ≠ 1) ∨ (nm = false ∧ k = 1 ∧ 1 ≤ N) ∨ (nm = false ∧ ¬ (k = 1 ∧ 1 ≤ N)) := by
    cases nm
    · by_cases h : k = 1 ∧ 1 ≤ N
      · exact .inr (.inr (.inl ⟨rfl, h⟩))
      · exact .inr (.inr (.inr ⟨rfl, h⟩))
    · by_cases h : k = 1
      · exact .inl ⟨rfl, h⟩
      · exact .inr (.inl ⟨rfl, h⟩)
  rcases hq with ⟨rfl, h1⟩ | ⟨rfl, h1⟩ | ⟨rfl, h1, h2⟩ | ⟨rfl, h1⟩
  rotate_left 3
  · have HP : Hid (pntR (k + 1) R = none) := by
      show pntR (k + 1) R = none
      have hN : ∀ e, pntO (k + 1) (wrd R1) e = none := fun e => by rw [HNy.out e, if_neg (by simp), if_neg h1]
      rw [HR.out.1]
      match Rt with
      | [] => exact hN []
      | [a] => rfl
      | a :: b :: c =>
        show (if wrd a = ifw then pntO (k + 1) (wrd R1) b else none) = none
        split
        · exact hN _
        · rfl
    have hor : (((k : Int) == 1) = true ∧ ¬ 1 ≤ N) ∨ ((k : Int) == 1) = false := by
      by_cases hk1 : k = 1
      · left; exact ⟨by rw [hk1]; rfl, fun h => h1 ⟨hk1, h⟩⟩
      · right; rw [beq_eq_false_iff_ne]; omega
    clear h1 HNy HR HF HE HkC HA
    rcases hor with ⟨kq, nq⟩ | kq
    all_goals
      go_wp2
      refine bodyPost_ret (by exact ret_rpt (HI3.out.f1.five _ _ _ _ _) rfl rfl) (by rfl) ?_
      unfold RptP
      exact ⟨3, 0, ⟨#[]⟩, ⟨#[]⟩, false, rfl, .inr ⟨rfl, HP.out⟩, below_fiveB HI3.out.b (Nat.le_refl _) _ _ _ _ _⟩
  · have kq : ((k : Int) == 1) = true := by rw [h1]; rfl
    have HQ0 : ∀ e, pntO (k + 1) (wrd R1) e = some ⟨0, 2, 0, y1.data.toList, e, false, 0, []⟩ := fun e => by rw [HNy.out e, if_pos rfl, if_pos h1]
    have HQ1 : Hid _ := HQ0
    clear h1 HNy HQ0
    go_upto_region 15 with fail
    obtain ⟨W4, hW4⟩ : ∃ W4, (w3.setCell ⟨B, 2, none⟩ (.string y1)).setCell ⟨B, 0, none⟩ (.int .i64 2) = W4 := ⟨_, rfl⟩
    rw [hW4]
    obtain ⟨p1, p2, p3, HQ, HI4⟩ : ∃ (p1 p2 : Int) (p3 : ByteArray), Hid (∀ e, pntO (k + 1) (wrd R1) e = some ⟨0, p1, p2, p3.data.toList, e, false, 0, []⟩) ∧ Hid (PtI w W4 B [.int .i64 p1, .int .i64 p2, .string p3, .string ⟨#[]⟩, .bool false]) := ⟨2, 0, y1, HQ1, by rw [← hW4]; exact (HI3.out.put (a := [_, _]) _).put (a := []) _⟩
    clear hW4 HQ1 HI3 kq r0 r1 r2 r3 r4 s0 s1 s2 s3 s4 g0 g1 g2 g3 g4 k0 k1 k2 k3 k4
    obtain ⟨⟨g0, k0⟩, ⟨g1, k1⟩, ⟨g2, k2⟩, ⟨g3, k3⟩, ⟨g4, k4⟩⟩ := HI4.out.f1.cell5
    obtain ⟨⟨r0, s0⟩, ⟨r1, s1⟩, ⟨r2, s2⟩, ⟨r3, s3⟩, ⟨r4, s4⟩⟩ := HI4.out.f2.cell5
    by_cases hn2 : n = 2
    · have HP : Hid (pntR (k + 1) R = some ⟨0, p1, p2, p3.data.toList, (⟨#[]⟩ : ByteArray).data.toList, false, 0, []⟩) := by
        show pntR (k + 1) R = _
        have hz : Rt = [] := List.eq_nil_of_length_eq_zero (by have := HR.out.2.1; omega)
        rw [HR.out.1, hz]
        exact HQ.out []
      have qn : ((n : Int) == 2) = true := by rw [hn2]; rfl
      clear HR HF HE HQ HA hn2
      go_wp2
      refine bodyPost_ret (by exact ret_rpt (HI4.out.f1.five _ _ _ _ _) rfl rfl) (by rfl) ?_
      unfold RptP
      exact ⟨p1, p2, p3, ⟨#[]⟩, true, rfl, .inl ⟨rfl, HP.out⟩, below_fiveB HI4.out.b (Nat.le_refl _) _ _ _ _ _⟩
    have qn : ((n : Int) == 2) = false := by rw [beq_eq_false_iff_ne]; omega
    have qn' : ¬ n = 2 := hn2
    obtain ⟨R2, Rv, hRv⟩ : ∃ a b, Rt = a :: b := by
      cases Rt with
      | nil => exact absurd HR.out.2.1.symm (by simpa using hn2)
      | cons a b => exact ⟨a, b, rfl⟩
    subst hRv
    have q2n : (2 : Int) < (n : Int) := by omega
    have hA4 := HA.out W4 HI4.out.b
    obtain ⟨⟨t2, a2⟩, hw2, hr2, -, -⟩ := HF.out.get 2 R2 (by rw [HR.out.1]; rfl)
    simp only at hr2
    obtain ⟨y2, hy2⟩ : ∃ y : ByteArray, y.data.toList = t2 := ⟨⟨t2.toArray⟩, rfl⟩
    have c4 : W4.cell? ⟨g, 4, none⟩ = some (.string y2) := (hA4.cell 2 y2 a2 (by rw [hy2]; exact hw2)).1
    rw [hr2] at hy2
    by_cases hif : wrd R2 = ifw
    rotate_left
    · have HP : Hid (pntR (k + 1) R = none) := by
        show pntR (k + 1) R = none
        rw [HR.out.1]
        cases Rv with
        | nil => rfl
        | cons b c => exact if_neg hif
      have qs : (y2.toList == [105, 102]) = false := by rw [Lx.toL, hy2, beq_eq_false_iff_ne]; exact hif
      clear HR HF HE HQ HA hA4 hw2 hr2 hy2 hif hn2
      go_wp2
      refine bodyPost_ret (by exact ret_rpt (HI4.out.f1.five _ _ _ _ _) rfl rfl) (by rfl) ?_
      unfold RptP
      exact ⟨p1, p2, p3, ⟨#[]⟩, false, rfl, .inr ⟨rfl, HP.out⟩, below_fiveB HI4.out.b (Nat.le_refl _) _ _ _ _ _⟩
    have qs : (y2.toList == [105, 102]) = true := by rw [Lx.toL, hy2, hif]; rfl
    by_cases hn4 : n < 4
    · have HP : Hid (pntR (k + 1) R = none) := by
        show pntR (k + 1) R = none
        have hz : Rv = [] := List.eq_nil_of_length_eq_zero (by have := HR.out.2.1; simp only [List.length_cons] at this; omega)
        rw [HR.out.1, hz]; rfl
      have q4 : (n : Int) < 4 := by omega
      clear HR HF HE HQ HA hA4 hw2 hr2 hy2 hif hn2
      go_wp2
      refine bodyPost_ret (by exact ret_rpt (HI4.out.f1.five _ _ _ _ _) rfl rfl) (by rfl) ?_
      unfold RptP
      exact ⟨p1, p2, p3, ⟨#[]⟩, false, rfl, .inr ⟨rfl, HP.out⟩, below_fiveB HI4.out.b (Nat.le_refl _) _ _ _ _ _⟩
    have q4 : ¬ (n : Int) < 4 := by omega
    have q3n : (3 : Int) < (n : Int) := by omega
    obtain ⟨R3, Ru, hRu⟩ : ∃ a b, Rv = a :: b := by
      cases Rv with
      | nil => exact absurd HR.out.2.1 (by simp only [List.length_cons, List.length_nil]; omega)
      | cons a b => exact ⟨a, b, rfl⟩
    subst hRu
    obtain ⟨⟨t3, a3⟩, hw3, -, ha3, hr3⟩ := HF.out.get 3 R3 (by rw [HR.out.1]; rfl)
    simp only at ha3 hr3
    obtain ⟨z, hz⟩ : ∃ z : ByteArray, z.data.toList = R3 := ⟨⟨R3.toArray⟩, rfl⟩
    have HP : Hid (pntR (k + 1) R = some ⟨0, p1, p2, p3.data.toList, z.data.toList, false, 0, []⟩) := by
      show pntR (k + 1) R = _
      rw [HR.out.1]
      show (if wrd R2 = ifw then pntO (k + 1) (wrd R1) R3 else none) = _
      rw [if_pos hif, hz]; exact HQ.out _
    have RS := sl_mid (s := l) (x := z) (a := a3) (k := E) ha3 HE.out.2.1 (by rw [hz, hr3, List.drop_take])
    obtain ⟨x3, hx3⟩ : ∃ y : ByteArray, y.data.toList = t3 := ⟨⟨t3.toArray⟩, rfl⟩
    have hcell : ∀ W, Below w.heap.size w W → W.cell? ⟨g, 7, none⟩ = some (.int .i64 (a3 : Int)) := fun W hW => ((HA.out W hW).cell 3 x3 a3 (by rw [hx3]; exact hw3)).2
    have HCe : Hid (∀ W, Below w.heap.size w W → W.cell? ⟨g, 7, none⟩ = some (.int .i64 (a3 : Int))) := hcell
    have HC := rend_any (HA.out W4.drew HI4.out.b.drew) HE.out.2.2
    rw [HE.out.1, HR.out.2.2] at HC
    clear HR HF HE HQ HA hA4 hw2 hr2 hy2 hif hn2 hw3 ha3 hr3 hz hcell hx3
    go_upto_region 19 with fail
    have d7 := HCe.out W4.drew HI4.out.b.drew
    clear r0 r1 r2 r3 r4 s0 s1 s2 s3 s4 g0 g1 g2 g3 g4 k0 k1 k2 k3 k4 c4
    go_region_law (first
      | (refine step_call (by rfl) 52 [.tmp 63] _ [.slice (some ⟨g, 0, none⟩) n cap] (by rfl) (by rfl) (callEnd _) (fun v w' => v = .int .i64 (E : Int) ∧ Hid (Below W4.drew.heap.size W4.drew w')) (HC.mono fun _ _ q => ⟨_, q.1, rfl, q.2⟩) ?_; rintro v5 w5 ⟨rfl, hb5⟩; have HI5 : Hid (PtI w w5 B [.int .i64 p1, .int .i64 p2, .string p3, .string ⟨#[]⟩, .bool false]) := HI4.out.next ((Below.refl _ W4).drew.trans hb5.out); have e7 := HCe.out w5 HI5.out.b; obtain ⟨⟨r0, s0⟩, ⟨r1, s1⟩, ⟨r2, s2⟩, ⟨r3, s3⟩, ⟨r4, s4⟩⟩ := HI5.out.f2.cell5)
      | fail)
    all_goals
      have HI7 : Hid (PtI w (w5.setCell ⟨B, 3, none⟩ (.string z)) B [.int .i64 p1, .int .i64 p2, .string p3, .string z, .bool false]) := HI5.out.put (a := [_, _, _]) _
      obtain ⟨W7, hW7⟩ : ∃ W7, w5.setCell ⟨B, 3, none⟩ (.string z) = W7 := ⟨_, rfl⟩
      rw [hW7] at HI7 ⊢
      clear hW7 r0 r1 r2 r3 r4 s0 s1 s2 s3 s4
      obtain ⟨⟨g0, k0⟩, ⟨g1, k1⟩, ⟨g2, k2⟩, ⟨g3, k3⟩, ⟨g4, k4⟩⟩ := HI7.out.f1.cell5
      obtain ⟨⟨r0, s0⟩, ⟨r1, s1⟩, ⟨r2, s2⟩, ⟨r3, s3⟩, ⟨r4, s4⟩⟩ := HI7.out.f2.cell5
      go_wp2
      refine bodyPost_ret (by exact ret_rpt (HI7.out.f1.five _ _ _ _ _) rfl rfl) (by rfl) ?_
      unfold RptP
      exact ⟨p1, p2, p3, z, true, rfl, .inl ⟨rfl, HP.out⟩, below_fiveB HI7.out.b (Nat.le_refl _) _ _ _ _ _⟩
  · have kq : ((k : Int) == 1) = false := by rw [beq_eq_false_iff_ne]; omega
    have HQ0 : ∀ e, pntO (k + 1) (wrd R1) e = some ⟨0, 3, 0, y1.data.toList, e, false, 0, []⟩ := fun e => by rw [HNy.out e, if_pos rfl, if_neg h1]
    have HQ1 : Hid _ := HQ0
    clear h1 HNy HQ0
    go_upto_region 15 with fail
    obtain ⟨W4, hW4⟩ : ∃ W4, w3.setCell ⟨B, 2, none⟩ (.string y1) = W4 := ⟨_, rfl⟩
    rw [hW4]
    obtain ⟨p1, p2, p3, HQ, HI4⟩ : ∃ (p1 p2 : Int) (p3 : ByteArray), Hid (∀ e, pntO (k + 1) (wrd R1) e = some ⟨0, p1, p2, p3.data.toList, e, false, 0, []⟩) ∧ Hid (PtI w W4 B [.int .i64 p1, .int .i64 p2, .string p3, .string ⟨#[]⟩, .bool false]) := ⟨3, 0, y1, HQ1, by rw [← hW4]; exact HI3.out.put (a := [_, _]) _⟩
    clear hW4 HQ1 HI3 kq r0 r1 r2 r3 r4 s0 s1 s2 s3 s4 g0 g1 g2 g3 g4 k0 k1 k2 k3 k4
    obtain ⟨⟨g0, k0⟩, ⟨g1, k1⟩, ⟨g2, k2⟩, ⟨g3, k3⟩, ⟨g4, k4⟩⟩ := HI4.out.f1.cell5
    obtain ⟨⟨r0, s0⟩, ⟨r1, s1⟩, ⟨r2, s2⟩, ⟨r3, s3⟩, ⟨r4, s4⟩⟩ := HI4.out.f2.cell5
    by_cases hn2 : n = 2
    · have HP : Hid (pntR (k + 1) R = some ⟨0, p1, p2, p3.data.toList, (⟨#[]⟩ : ByteArray).data.toList, false, 0, []⟩) := by
        show pntR (k + 1) R = _
        have hz : Rt = [] := List.eq_nil_of_length_eq_zero (by have := HR.out.2.1; omega)
        rw [HR.out.1, hz]
        exact HQ.out []
      have qn : ((n : Int) == 2) = true := by rw [hn2]; rfl
      clear HR HF HE HQ HA hn2
      go_wp2
      refine bodyPost_ret (by exact ret_rpt (HI4.out.f1.five _ _ _ _ _) rfl rfl) (by rfl) ?_
      unfold RptP
      exact ⟨p1, p2, p3, ⟨#[]⟩, true, rfl, .inl ⟨rfl, HP.out⟩, below_fiveB HI4.out.b (Nat.le_refl _) _ _ _ _ _⟩
    have qn : ((n : Int) == 2) = false := by rw [beq_eq_false_iff_ne]; omega
    have qn' : ¬ n = 2 := hn2
    obtain ⟨R2, Rv, hRv⟩ : ∃ a b, Rt = a :: b := by
      cases Rt with
      | nil => exact absurd HR.out.2.1.symm (by simpa using hn2)
      | cons a b => exact ⟨a, b, rfl⟩
    subst hRv
    have q2n : (2 : Int) < (n : Int) := by omega
    have hA4 := HA.out W4 HI4.out.b
    obtain ⟨⟨t2, a2⟩, hw2, hr2, -, -⟩ := HF.out.get 2 R2 (by rw [HR.out.1]; rfl)
    simp only at hr2
    obtain ⟨y2, hy2⟩ : ∃ y : ByteArray, y.data.toList = t2 := ⟨⟨t2.toArray⟩, rfl⟩
    have c4 : W4.cell? ⟨g, 4, none⟩ = some (.string y2) := (hA4.cell 2 y2 a2 (by rw [hy2]; exact hw2)).1
    rw [hr2] at hy2
    by_cases hif : wrd R2 = ifw
    rotate_left
    · have HP : Hid (pntR (k + 1) R = none) := by
        show pntR (k + 1) R = none
        rw [HR.out.1]
        cases Rv with
        | nil => rfl
        | cons b c => exact if_neg hif
      have qs : (y2.toList == [105, 102]) = false := by rw [Lx.toL, hy2, beq_eq_false_iff_ne]; exact hif
      clear HR HF HE HQ HA hA4 hw2 hr2 hy2 hif hn2
      go_wp2
      refine bodyPost_ret (by exact ret_rpt (HI4.out.f1.five _ _ _ _ _) rfl rfl) (by rfl) ?_
      unfold RptP
      exact ⟨p1, p2, p3, ⟨#[]⟩, false, rfl, .inr ⟨rfl, HP.out⟩, below_fiveB HI4.out.b (Nat.le_refl _) _ _ _ _ _⟩
    have qs : (y2.toList == [105, 102]) = true := by rw [Lx.toL, hy2, hif]; rfl
    by_cases hn4 : n < 4
    · have HP : Hid (pntR (k + 1) R = none) := by
        show pntR (k + 1) R = none
        have hz : Rv = [] := List.eq_nil_of_length_eq_zero (by have := HR.out.2.1; simp only [List.length_cons] at this; omega)
        rw [HR.out.1, hz]; rfl
      have q4 : (n : Int) < 4 := by omega
      clear HR HF HE HQ HA hA4 hw2 hr2 hy2 hif hn2
      go_wp2
      refine bodyPost_ret (by exact ret_rpt (HI4.out.f1.five _ _ _ _ _) rfl rfl) (by rfl) ?_
      unfold RptP
      exact ⟨p1, p2, p3, ⟨#[]⟩, false, rfl, .inr ⟨rfl, HP.out⟩, below_fiveB HI4.out.b (Nat.le_refl _) _ _ _ _ _⟩
    have q4 : ¬ (n : Int) < 4 := by omega
    have q3n : (3 : Int) < (n : Int) := by omega
    obtain ⟨R3, Ru, hRu⟩ : ∃ a b, Rv = a :: b := by
      cases Rv with
      | nil => exact absurd HR.out.2.1 (by simp only [List.length_cons, List.length_nil]; omega)
      | cons a b => exact ⟨a, b, rfl⟩
    subst hRu
    obtain ⟨⟨t3, a3⟩, hw3, -, ha3, hr3⟩ := HF.out.get 3 R3 (by rw [HR.out.1]; rfl)
    simp only at ha3 hr3
    obtain ⟨z, hz⟩ : ∃ z : ByteArray, z.data.toList = R3 := ⟨⟨R3.toArray⟩, rfl⟩
    have HP : Hid (pntR (k + 1) R = some ⟨0, p1, p2, p3.data.toList, z.data.toList, false, 0, []⟩) := by
      show pntR (k + 1) R = _
      rw [HR.out.1]
      show (if wrd R2 = ifw then pntO (k + 1) (wrd R1) R3 else none) = _
      rw [if_pos hif, hz]; exact HQ.out _
    have RS := sl_mid (s := l) (x := z) (a := a3) (k := E) ha3 HE.out.2.1 (by rw [hz, hr3, List.drop_take])
    obtain ⟨x3, hx3⟩ : ∃ y : ByteArray, y.data.toList = t3 := ⟨⟨t3.toArray⟩, rfl⟩
    have hcell : ∀ W, Below w.heap.size w W → W.cell? ⟨g, 7, none⟩ = some (.int .i64 (a3 : Int)) := fun W hW => ((HA.out W hW).cell 3 x3 a3 (by rw [hx3]; exact hw3)).2
    have HCe : Hid (∀ W, Below w.heap.size w W → W.cell? ⟨g, 7, none⟩ = some (.int .i64 (a3 : Int))) := hcell
    have HC := rend_any (HA.out W4.drew HI4.out.b.drew) HE.out.2.2
    rw [HE.out.1, HR.out.2.2] at HC
    clear HR HF HE HQ HA hA4 hw2 hr2 hy2 hif hn2 hw3 ha3 hr3 hz hcell hx3
    go_upto_region 19 with fail
    have d7 := HCe.out W4.drew HI4.out.b.drew
    clear r0 r1 r2 r3 r4 s0 s1 s2 s3 s4 g0 g1 g2 g3 g4 k0 k1 k2 k3 k4 c4
    go_region_law (first
      | (refine step_call (by rfl) 52 [.tmp 63] _ [.slice (some ⟨g, 0, none⟩) n cap] (by rfl) (by rfl) (callEnd _) (fun v w' => v = .int .i64 (E : Int) ∧ Hid (Below W4.drew.heap.size W4.drew w')) (HC.mono fun _ _ q => ⟨_, q.1, rfl, q.2⟩) ?_; rintro v5 w5 ⟨rfl, hb5⟩; have HI5 : Hid (PtI w w5 B [.int .i64 p1, .int .i64 p2, .string p3, .string ⟨#[]⟩, .bool false]) := HI4.out.next ((Below.refl _ W4).drew.trans hb5.out); have e7 := HCe.out w5 HI5.out.b; obtain ⟨⟨r0, s0⟩, ⟨r1, s1⟩, ⟨r2, s2⟩, ⟨r3, s3⟩, ⟨r4, s4⟩⟩ := HI5.out.f2.cell5)
      | fail)
    all_goals
      have HI7 : Hid (PtI w (w5.setCell ⟨B, 3, none⟩ (.string z)) B [.int .i64 p1, .int .i64 p2, .string p3, .string z, .bool false]) := HI5.out.put (a := [_, _, _]) _
      obtain ⟨W7, hW7⟩ : ∃ W7, w5.setCell ⟨B, 3, none⟩ (.string z) = W7 := ⟨_, rfl⟩
      rw [hW7] at HI7 ⊢
      clear hW7 r0 r1 r2 r3 r4 s0 s1 s2 s3 s4
      obtain ⟨⟨g0, k0⟩, ⟨g1, k1⟩, ⟨g2, k2⟩, ⟨g3, k3⟩, ⟨g4, k4⟩⟩ := HI7.out.f1.cell5
      obtain ⟨⟨r0, s0⟩, ⟨r1, s1⟩, ⟨r2, s2⟩, ⟨r3, s3⟩, ⟨r4, s4⟩⟩ := HI7.out.f2.cell5
      go_wp2
      refine bodyPost_ret (by exact ret_rpt (HI7.out.f1.five _ _ _ _ _) rfl rfl) (by rfl) ?_
      unfold RptP
      exact ⟨p1, p2, p3, z, true, rfl, .inl ⟨rfl, HP.out⟩, below_fiveB HI7.out.b (Nat.le_refl _) _ _ _ _ _⟩
  · have kq : ((k : Int) == 1) = true := by rw [h1]; rfl
    have HQ0 : ∀ e, pntO (k + 1) (wrd R1) e = some ⟨0, 1, N, (⟨#[]⟩ : ByteArray).data.toList, e, false, 0, []⟩ := fun e => by rw [HNy.out e, if_neg (by simp), if_pos ⟨h1, h2⟩]
    have HQ1 : Hid _ := HQ0
    clear h1 HNy HQ0
    go_upto_region 15 with fail
    obtain ⟨W4, hW4⟩ : ∃ W4, (w3.setCell ⟨B, 0, none⟩ (.int .i64 1)).setCell ⟨B, 1, none⟩ (.int .i64 N) = W4 := ⟨_, rfl⟩
    rw [hW4]
    obtain ⟨p1, p2, p3, HQ, HI4⟩ : ∃ (p1 p2 : Int) (p3 : ByteArray), Hid (∀ e, pntO (k + 1) (wrd R1) e = some ⟨0, p1, p2, p3.data.toList, e, false, 0, []⟩) ∧ Hid (PtI w W4 B [.int .i64 p1, .int .i64 p2, .string p3, .string ⟨#[]⟩, .bool false]) := ⟨1, N, ⟨#[]⟩, HQ1, by rw [← hW4]; exact (HI3.out.put (a := []) _).put (a := [_]) _⟩
    clear hW4 HQ1 HI3 kq r0 r1 r2 r3 r4 s0 s1 s2 s3 s4 g0 g1 g2 g3 g4 k0 k1 k2 k3 k4
    obtain ⟨⟨g0, k0⟩, ⟨g1, k1⟩, ⟨g2, k2⟩, ⟨g3, k3⟩, ⟨g4, k4⟩⟩ := HI4.out.f1.cell5
    obtain ⟨⟨r0, s0⟩, ⟨r1, s1⟩, ⟨r2, s2⟩, ⟨r3, s3⟩, ⟨r4, s4⟩⟩ := HI4.out.f2.cell5
    by_cases hn2 : n = 2
    · have HP : Hid (pntR (k + 1) R = some ⟨0, p1, p2, p3.data.toList, (⟨#[]⟩ : ByteArray).data.toList, false, 0, []⟩) := by
        show pntR (k + 1) R = _
        have hz : Rt = [] := List.eq_nil_of_length_eq_zero (by have := HR.out.2.1; omega)
        rw [HR.out.1, hz]
        exact HQ.out []
      have qn : ((n : Int) == 2) = true := by rw [hn2]; rfl
      clear HR HF HE HQ HA hn2
      go_wp2
      refine bodyPost_ret (by exact ret_rpt (HI4.out.f1.five _ _ _ _ _) rfl rfl) (by rfl) ?_
      unfold RptP
      exact ⟨p1, p2, p3, ⟨#[]⟩, true, rfl, .inl ⟨rfl, HP.out⟩, below_fiveB HI4.out.b (Nat.le_refl _) _ _ _ _ _⟩
    have qn : ((n : Int) == 2) = false := by rw [beq_eq_false_iff_ne]; omega
    have qn' : ¬ n = 2 := hn2
    obtain ⟨R2, Rv, hRv⟩ : ∃ a b, Rt = a :: b := by
      cases Rt with
      | nil => exact absurd HR.out.2.1.symm (by simpa using hn2)
      | cons a b => exact ⟨a, b, rfl⟩
    subst hRv
    have q2n : (2 : Int) < (n : Int) := by omega
    have hA4 := HA.out W4 HI4.out.b
    obtain ⟨⟨t2, a2⟩, hw2, hr2, -, -⟩ := HF.out.get 2 R2 (by rw [HR.out.1]; rfl)
    simp only at hr2
    obtain ⟨y2, hy2⟩ : ∃ y : ByteArray, y.data.toList = t2 := ⟨⟨t2.toArray⟩, rfl⟩
    have c4 : W4.cell? ⟨g, 4, none⟩ = some (.string y2) := (hA4.cell 2 y2 a2 (by rw [hy2]; exact hw2)).1
    rw [hr2] at hy2
    by_cases hif : wrd R2 = ifw
    rotate_left
    · have HP : Hid (pntR (k + 1) R = none) := by
        show pntR (k + 1) R = none
        rw [HR.out.1]
        cases Rv with
        | nil => rfl
        | cons b c => exact if_neg hif
      have qs : (y2.toList == [105, 102]) = false := by rw [Lx.toL, hy2, beq_eq_false_iff_ne]; exact hif
      clear HR HF HE HQ HA hA4 hw2 hr2 hy2 hif hn2
      go_wp2
      refine bodyPost_ret (by exact ret_rpt (HI4.out.f1.five _ _ _ _ _) rfl rfl) (by rfl) ?_
      unfold RptP
      exact ⟨p1, p2, p3, ⟨#[]⟩, false, rfl, .inr ⟨rfl, HP.out⟩, below_fiveB HI4.out.b (Nat.le_refl _) _ _ _ _ _⟩
    have qs : (y2.toList == [105, 102]) = true := by rw [Lx.toL, hy2, hif]; rfl
    by_cases hn4 : n < 4
    · have HP : Hid (pntR (k + 1) R = none) := by
        show pntR (k + 1) R = none
        have hz : Rv = [] := List.eq_nil_of_length_eq_zero (by have := HR.out.2.1; simp only [List.length_cons] at this; omega)
        rw [HR.out.1, hz]; rfl
      have q4 : (n : Int) < 4 := by omega
      clear HR HF HE HQ HA hA4 hw2 hr2 hy2 hif hn2
      go_wp2
      refine bodyPost_ret (by exact ret_rpt (HI4.out.f1.five _ _ _ _ _) rfl rfl) (by rfl) ?_
      unfold RptP
      exact ⟨p1, p2, p3, ⟨#[]⟩, false, rfl, .inr ⟨rfl, HP.out⟩, below_fiveB HI4.out.b (Nat.le_refl _) _ _ _ _ _⟩
    have q4 : ¬ (n : Int) < 4 := by omega
    have q3n : (3 : Int) < (n : Int) := by omega
    obtain ⟨R3, Ru, hRu⟩ : ∃ a b, Rv = a :: b := by
      cases Rv with
      | nil => exact absurd HR.out.2.1 (by simp only [List.length_cons, List.length_nil]; omega)
      | cons a b => exact ⟨a, b, rfl⟩
    subst hRu
    obtain ⟨⟨t3, a3⟩, hw3, -, ha3, hr3⟩ := HF.out.get 3 R3 (by rw [HR.out.1]; rfl)
    simp only at ha3 hr3
    obtain ⟨z, hz⟩ : ∃ z : ByteArray, z.data.toList = R3 := ⟨⟨R3.toArray⟩, rfl⟩
    have HP : Hid (pntR (k + 1) R = some ⟨0, p1, p2, p3.data.toList, z.data.toList, false, 0, []⟩) := by
      show pntR (k + 1) R = _
      rw [HR.out.1]
      show (if wrd R2 = ifw then pntO (k + 1) (wrd R1) R3 else none) = _
      rw [if_pos hif, hz]; exact HQ.out _
    have RS := sl_mid (s := l) (x := z) (a := a3) (k := E) ha3 HE.out.2.1 (by rw [hz, hr3, List.drop_take])
    obtain ⟨x3, hx3⟩ : ∃ y : ByteArray, y.data.toList = t3 := ⟨⟨t3.toArray⟩, rfl⟩
    have hcell : ∀ W, Below w.heap.size w W → W.cell? ⟨g, 7, none⟩ = some (.int .i64 (a3 : Int)) := fun W hW => ((HA.out W hW).cell 3 x3 a3 (by rw [hx3]; exact hw3)).2
    have HCe : Hid (∀ W, Below w.heap.size w W → W.cell? ⟨g, 7, none⟩ = some (.int .i64 (a3 : Int))) := hcell
    have HC := rend_any (HA.out W4.drew HI4.out.b.drew) HE.out.2.2
    rw [HE.out.1, HR.out.2.2] at HC
    clear HR HF HE HQ HA hA4 hw2 hr2 hy2 hif hn2 hw3 ha3 hr3 hz hcell hx3
    go_upto_region 19 with fail
    have d7 := HCe.out W4.drew HI4.out.b.drew
    clear r0 r1 r2 r3 r4 s0 s1 s2 s3 s4 g0 g1 g2 g3 g4 k0 k1 k2 k3 k4 c4
    go_region_law (first
      | (refine step_call (by rfl) 52 [.tmp 63] _ [.slice (some ⟨g, 0, none⟩) n cap] (by rfl) (by rfl) (callEnd _) (fun v w' => v = .int .i64 (E : Int) ∧ Hid (Below W4.drew.heap.size W4.drew w')) (HC.mono fun _ _ q => ⟨_, q.1, rfl, q.2⟩) ?_; rintro v5 w5 ⟨rfl, hb5⟩; have HI5 : Hid (PtI w w5 B [.int .i64 p1, .int .i64 p2, .string p3, .string ⟨#[]⟩, .bool false]) := HI4.out.next ((Below.refl _ W4).drew.trans hb5.out); have e7 := HCe.out w5 HI5.out.b; obtain ⟨⟨r0, s0⟩, ⟨r1, s1⟩, ⟨r2, s2⟩, ⟨r3, s3⟩, ⟨r4, s4⟩⟩ := HI5.out.f2.cell5)
      | fail)
    all_goals
      have HI7 : Hid (PtI w (w5.setCell ⟨B, 3, none⟩ (.string z)) B [.int .i64 p1, .int .i64 p2, .string p3, .string z, .bool false]) := HI5.out.put (a := [_, _, _]) _
      obtain ⟨W7, hW7⟩ : ∃ W7, w5.setCell ⟨B, 3, none⟩ (.string z) = W7 := ⟨_, rfl⟩
      rw [hW7] at HI7 ⊢
      clear hW7 r0 r1 r2 r3 r4 s0 s1 s2 s3 s4
      obtain ⟨⟨g0, k0⟩, ⟨g1, k1⟩, ⟨g2, k2⟩, ⟨g3, k3⟩, ⟨g4, k4⟩⟩ := HI7.out.f1.cell5
      obtain ⟨⟨r0, s0⟩, ⟨r1, s1⟩, ⟨r2, s2⟩, ⟨r3, s3⟩, ⟨r4, s4⟩⟩ := HI7.out.f2.cell5
      go_wp2
      refine bodyPost_ret (by exact ret_rpt (HI7.out.f1.five _ _ _ _ _) rfl rfl) (by rfl) ?_
      unfold RptP
      exact ⟨p1, p2, p3, z, true, rfl, .inl ⟨rfl, HP.out⟩, below_fiveB HI7.out.b (Nat.le_refl _) _ _ _ _ _⟩
end Go.Proofs.YtichbejmelkjeaaGreatDoor
