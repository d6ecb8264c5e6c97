import Derived.Test.YtichbejmelkjeaaDoorcTk
namespace Go.Proofs.YtichbejmelkjeaaDoor
open Go.RowKit

theorem scan_inl : ∀ (f k : Nat) (l : List UInt8) (e q : Nat), Lx.scanS f k l = .inl (e, q) → e ≠ 0 := by
  intro f
  induction f with
  | zero => intro k l e q h; simp [Lx.scanS] at h; omega
  | succ f ih =>
    intro k l e q h
    match l with
    | [] => simp [Lx.scanS] at h
    | c :: r =>
      unfold Lx.scanS at h
      split at h
      · exact ih _ _ _ _ h
      · split at h
        · exact ih _ _ _ _ h
        · split at h
          · rename_i e1 he
            have := Lx.tok_err he
            cases h; omega
          · split at h
            · rename_i p hp
              cases h; exact ih _ _ _ _ hp
            · cases h
theorem scan_inr : ∀ (f k : Nat) (l : List UInt8) (L : List (Nat × Lx.Tk)), Lx.scanS f k l = .inr L → ∃ a t, L = a :: t := by
  intro f
  induction f with
  | zero => intro k l L h; simp [Lx.scanS] at h
  | succ f ih =>
    intro k l L h
    match l with
    | [] => simp [Lx.scanS] at h; exact ⟨_, _, h.symm⟩
    | c :: r =>
      unfold Lx.scanS at h
      split at h
      · exact ih _ _ _ h
      · split at h
        · exact ih _ _ _ h
        · split at h
          · cases h
          · split at h
            · cases h
            · cases h; exact ⟨_, _, rfl⟩

def tkA (x : Lx.Tk) : Value := .agg #[.int .i64 (x.kind : Int), .int .i64 0, .int .i64 (x.len : Int), .string ⟨x.text.toArray⟩, .int .i64 x.int]
theorem ret_whole {w : World} {B : Nat} {a b c d e : Value} {tm : Array Value} (hf : Full w B 89 [a, b, c, d, e]) (h2 : tm[2]?.getD undef = .pointer (some ⟨B, 0, none⟩)) :
    (results Tryd.f36 tm).run Tryd.prog w = .ok (.agg #[a, b, c, d, e]) w := by
  have c0 := (hf.cell 0 _ rfl).1
  have c1 := (hf.cell 1 _ rfl).1
  have c2 := (hf.cell 2 _ rfl).1
  have c3 := (hf.cell 3 _ rfl).1
  have c4 := (hf.cell 4 _ rfl).1
  simp [results, Tryd.results36, go_sem, h2, c0, c1, c2, c3, c4]
/-- Five cells written. -/
theorem Full.five {W : World} {B : Nat} {t : TypeId} {a b c d e : Value} (h : Full W B t [a, b, c, d, e]) (p q r s u : Value) :
    Full (((((W.setCell ⟨B, 0, none⟩ p).setCell ⟨B, 1, none⟩ q).setCell ⟨B, 2, none⟩ r).setCell ⟨B, 3, none⟩ s).setCell ⟨B, 4, none⟩ u) B t [p, q, r, s, u] :=
  Full.put1 (a := [p, q, r, s]) (Full.put1 (a := [p, q, r]) (Full.put1 (a := [p, q]) (Full.put1 (a := [p]) (Full.put1 (a := []) h p) q) r) s) u

theorem below_five {w0 w : World} {B : Nat} (h : Below B w0 w) (y0 y1 y2 y3 y4 : Value) :
    Below B w0 (((((w.setCell ⟨B, 0, none⟩ y0).setCell ⟨B, 1, none⟩ y1).setCell ⟨B, 2, none⟩ y2).setCell ⟨B, 3, none⟩ y3).setCell ⟨B, 4, none⟩ y4) :=
  ((((h.setCell (p := ⟨B, 0, none⟩) (Nat.le_refl _) _).setCell (p := ⟨B, 1, none⟩) (Nat.le_refl _) _).setCell (p := ⟨B, 2, none⟩) (Nat.le_refl _) _).setCell (p := ⟨B, 3, none⟩) (Nat.le_refl _) _).setCell (p := ⟨B, 4, none⟩) (Nat.le_refl _) _

set_option maxRecDepth 100000 in
set_option maxHeartbeats 4000000 in
theorem whole_any (s : ByteArray) (w : World) (hs : s.size ≤ 300) (hT : Tb w) :
    Calls Tryd.prog 36 #[.string s] w fun e w' => e = .returned (tkA (whl s.data.toList)) ∧ Below w.heap.size w w' := by
  obtain ⟨X1, hX1⟩ : ∃ X1, w.alloc (.cells #[.int .i64 0, .int .i64 0, .int .i64 0, .string ⟨#[]⟩, .int .i64 0] 89) = X1 := ⟨_, rfl⟩
  have b1 : Below w.heap.size w X1 := by rw [← hX1]; exact (Below.refl _ w).alloc (Nat.le_refl _) _
  have f1 : Full X1 w.heap.size 89 [.int .i64 0, .int .i64 0, .int .i64 0, .string ⟨#[]⟩, .int .i64 0] := by rw [← hX1]; exact Full.new w _ _
  have z1 : X1.heap.size = w.heap.size + 1 := by rw [← hX1]; simp
  have hsl := Lib.size_eq s
  have HS0 := Lx.scan_any s X1 (by omega) (hT.next b1).lx
  obtain ⟨R, hR⟩ : ∃ R, Lx.scanS (s.data.toList.length + 1) 0 s.data.toList = R := ⟨_, rfl⟩
  rw [hsl, hR] at HS0
  have HF : Hid (∀ w2, Below X1.heap.size X1 w2 → Full w2 w.heap.size 89 [.int .i64 0, .int .i64 0, .int .i64 0, .string ⟨#[]⟩, .int .i64 0] ∧ Below w.heap.size w w2) := fun w2 h2 => ⟨f1.next h2, b1.trans (h2.mono b1.size)⟩
  clear hT b1 f1
  cases hRc : R with
  | inl p =>
    obtain ⟨e, q⟩ := p
    rw [hRc] at HS0 hR
    have he := scan_inl _ _ _ _ _ hR
    have hef : ((e : Int) == 0) = false := by rw [beq_eq_false_iff_ne]; omega
    have HW : Hid (tkA (whl s.data.toList) = .agg #[.int .i64 0, .int .i64 0, .int .i64 0, .string ⟨#[]⟩, .int .i64 0]) := by
      show tkA (whl s.data.toList) = _
      unfold whl; rw [hR]; rfl
    have HS : Hid (Calls Tryd.prog 44 #[.string s] X1 fun x w' => x = .returned (.tuple #[.slice none 0 0, .agg #[.int .i64 (e : Int), .int .i64 (q : Int)]]) ∧ Below X1.heap.size X1 w') := HS0
    clear HS0 hR hRc hsl
    go_enter Tryd.func36, Tryd.ntmps36
    go_wp2_with fail
    refine HS.out.mono ?_
    rintro x w2 ⟨rfl, hb2⟩
    obtain ⟨W3, hW3⟩ : ∃ W3, w2.alloc (.cells #[.int .i64 (e : Int), .int .i64 (q : Int)] 104) = W3 := ⟨_, rfl⟩
    have b3 : Below X1.heap.size X1 W3 := by rw [← hW3]; exact hb2.alloc hb2.size _
    have F3 : Hid _ := HF.out W3 b3
    have f3 : Full W3 w2.heap.size 104 [.int .i64 (e : Int), .int .i64 (q : Int)] := by rw [← hW3]; exact Full.new w2 _ _
    have d0 := (f3.cell 0 _ rfl).1
    obtain ⟨c0, k0⟩ := F3.out.1.cell 0 _ rfl
    obtain ⟨c1, k1⟩ := F3.out.1.cell 1 _ rfl
    obtain ⟨c2, k2⟩ := F3.out.1.cell 2 _ rfl
    obtain ⟨c3, k3⟩ := F3.out.1.cell 3 _ rfl
    obtain ⟨c4, k4⟩ := F3.out.1.cell 4 _ rfl
    clear b3 f3 hb2 HF
    go_wp2
    refine bodyPost_ret (ret_whole (F3.out.1.five _ _ _ _ _) rfl) rfl ?_
    exact ⟨congrArg Ending.returned HW.out.symm, below_five F3.out.2 _ _ _ _ _⟩
  | inr L =>
    rw [hRc] at HS0 hR
    obtain ⟨⟨k, x⟩, t, rfl⟩ := scan_inr _ _ _ _ hR
    have hwh : whl s.data.toList = if k = 0 ∧ x.len = s.data.toList.length then x else tk0 := by unfold whl; rw [hR]
    obtain ⟨kd, ln, tx, it⟩ := x
    simp only at hwh
    obtain ⟨tb, htb⟩ : ∃ tb : ByteArray, tb = ⟨tx.toArray⟩ := ⟨_, rfl⟩
    have HS : Hid (Calls Tryd.prog 44 #[.string s] X1 fun y w' => ∃ q n c, y = .returned (.tuple #[.slice (some ⟨q, 0, none⟩) n c, .agg #[.int .i64 0, .int .i64 0]]) ∧ 0 < n ∧ n ≤ c ∧ Hid (w'.cell? ⟨q, 0, none⟩ = some (.int .i64 (kd : Int)) ∧ w'.cell? ⟨q, 1, none⟩ = some (.int .i64 (k : Int)) ∧ w'.cell? ⟨q, 2, none⟩ = some (.int .i64 ((k : Int) + (ln : Int))) ∧ w'.cell? ⟨q, 3, none⟩ = some (.string tb) ∧ w'.cell? ⟨q, 4, none⟩ = some (.int .i64 it)) ∧ Below X1.heap.size X1 w') := by
      refine Calls.mono HS0 ?_
      rintro y w' ⟨v, rfl, ho, hb⟩
      obtain ⟨q, cap, rfl, hc, hr⟩ := own_slice ho
      obtain ⟨g, rfl, hr2⟩ := hr (by simp)
      have at_ : ∀ j u, (Lx.toksV ((k, ⟨kd, ln, tx, it⟩) :: t))[j]? = some u → w'.cell? ⟨g, j, none⟩ = some u := fun j u hu => by have := hr2 j u hu; rwa [Nat.zero_add] at this
      refine ⟨g, _, cap, rfl, by simp, hc, ⟨at_ 0 _ rfl, at_ 1 _ rfl, at_ 2 _ rfl, ?_, at_ 4 _ rfl⟩, hb⟩
      rw [htb]; exact at_ 3 _ rfl
    have HWy : Hid (k = 0 → ln = s.size → tkA (whl s.data.toList) = .agg #[.int .i64 (kd : Int), .int .i64 0, .int .i64 (ln : Int), .string tb, .int .i64 it]) := fun h1 h2 => by
      rw [hwh, if_pos ⟨h1, by omega⟩, htb]; rfl
    have HWn : Hid (¬ (k = 0 ∧ ln = s.size) → tkA (whl s.data.toList) = .agg #[.int .i64 0, .int .i64 0, .int .i64 0, .string ⟨#[]⟩, .int .i64 0]) := fun h1 => by
      rw [hwh, if_neg (by rintro ⟨h2, h3⟩; exact h1 ⟨h2, by omega⟩)]; rfl
    clear HS0 hR hRc hwh htb
    have hlo : (s.size : Int) ≤ 300 := by omega
    clear hsl
    by_cases hk : k = 0
    · subst hk
      by_cases hl : ln = s.size
      · have HW : Hid _ := HWy.out rfl hl
        subst hl
        clear HWy HWn
        go_enter Tryd.func36, Tryd.ntmps36
        go_wp2_with fail
        refine HS.out.mono ?_
        rintro y w2 ⟨q, n, cp, rfl, hn0, hnc, hcs, hb2⟩
        obtain ⟨W3, hW3⟩ : ∃ W3, w2.alloc (.cells #[.int .i64 0, .int .i64 0] 104) = W3 := ⟨_, rfl⟩
        have n3 : Below w2.heap.size w2 W3 := by rw [← hW3]; exact (Below.refl _ w2).alloc (Nat.le_refl _) _
        have F3 : Hid _ := HF.out W3 (hb2.trans (n3.mono hb2.size))
        have f3 : Full W3 w2.heap.size 104 [.int .i64 0, .int .i64 0] := by rw [← hW3]; exact Full.new w2 _ _
        have d0 := (f3.cell 0 _ rfl).1
        obtain ⟨x0, x1, x2, x3, x4⟩ := hcs.out
        have up : ∀ j u, w2.cell? ⟨q, j, none⟩ = some u → W3.cell? ⟨q, j, none⟩ = some u := fun j u hu => (n3.cell (p := ⟨q, j, none⟩) (World.block_lt_of_cell? w2 _ hu)).trans hu
        have y0 := up _ _ x0
        have y1 := up _ _ x1
        have y2 := up _ _ x2
        have y3 := up _ _ x3
        have y4 := up _ _ x4
        clear x0 x1 x2 x3 x4 up hcs
        obtain ⟨c0, k0⟩ := F3.out.1.cell 0 _ rfl
        obtain ⟨c1, k1⟩ := F3.out.1.cell 1 _ rfl
        obtain ⟨c2, k2⟩ := F3.out.1.cell 2 _ rfl
        obtain ⟨c3, k3⟩ := F3.out.1.cell 3 _ rfl
        obtain ⟨c4, k4⟩ := F3.out.1.cell 4 _ rfl
        clear n3 f3 hb2 HF
        subst hW3
        go_wp2
        refine bodyPost_ret (ret_whole (F3.out.1.five _ _ _ _ _) rfl) rfl ?_
        exact ⟨congrArg Ending.returned HW.out.symm, below_five F3.out.2 _ _ _ _ _⟩
      · have HW : Hid _ := HWn.out (fun h => hl h.2)
        have hlf : ((ln : Int) == (s.size : Int)) = false := by rw [beq_eq_false_iff_ne]; omega
        clear HWy HWn
        go_enter Tryd.func36, Tryd.ntmps36
        go_wp2_with fail
        refine HS.out.mono ?_
        rintro y w2 ⟨q, n, cp, rfl, hn0, hnc, hcs, hb2⟩
        obtain ⟨W3, hW3⟩ : ∃ W3, w2.alloc (.cells #[.int .i64 0, .int .i64 0] 104) = W3 := ⟨_, rfl⟩
        have n3 : Below w2.heap.size w2 W3 := by rw [← hW3]; exact (Below.refl _ w2).alloc (Nat.le_refl _) _
        have F3 : Hid _ := HF.out W3 (hb2.trans (n3.mono hb2.size))
        have f3 : Full W3 w2.heap.size 104 [.int .i64 0, .int .i64 0] := by rw [← hW3]; exact Full.new w2 _ _
        have d0 := (f3.cell 0 _ rfl).1
        obtain ⟨x0, x1, x2, x3, x4⟩ := hcs.out
        have up : ∀ j u, w2.cell? ⟨q, j, none⟩ = some u → W3.cell? ⟨q, j, none⟩ = some u := fun j u hu => (n3.cell (p := ⟨q, j, none⟩) (World.block_lt_of_cell? w2 _ hu)).trans hu
        have y0 := up _ _ x0
        have y1 := up _ _ x1
        have y2 := up _ _ x2
        have y3 := up _ _ x3
        have y4 := up _ _ x4
        clear x0 x1 x2 x3 x4 up hcs
        obtain ⟨c0, k0⟩ := F3.out.1.cell 0 _ rfl
        obtain ⟨c1, k1⟩ := F3.out.1.cell 1 _ rfl
        obtain ⟨c2, k2⟩ := F3.out.1.cell 2 _ rfl
        obtain ⟨c3, k3⟩ := F3.out.1.cell 3 _ rfl
        obtain ⟨c4, k4⟩ := F3.out.1.cell 4 _ rfl
        clear n3 f3 hb2 HF
        subst hW3
        go_wp2
        refine bodyPost_ret (ret_whole (F3.out.1.five _ _ _ _ _) rfl) rfl ?_
        exact ⟨congrArg Ending.returned HW.out.symm, below_five F3.out.2 _ _ _ _ _⟩
    · have HW : Hid _ := HWn.out (fun h => hk h.1)
      have hkf : ((k : Int) == 0) = false := by rw [beq_eq_false_iff_ne]; omega
      clear HWy HWn
      go_enter Tryd.func36, Tryd.ntmps36
      go_wp2_with fail
      refine HS.out.mono ?_
      rintro y w2 ⟨q, n, cp, rfl, hn0, hnc, hcs, hb2⟩
      obtain ⟨W3, hW3⟩ : ∃ W3, w2.alloc (.cells #[.int .i64 0, .int .i64 0] 104) = W3 := ⟨_, rfl⟩
      have n3 : Below w2.heap.size w2 W3 := by rw [← hW3]; exact (Below.refl _ w2).alloc (Nat.le_refl _) _
      have F3 : Hid _ := HF.out W3 (hb2.trans (n3.mono hb2.size))
      have f3 : Full W3 w2.heap.size 104 [.int .i64 0, .int .i64 0] := by rw [← hW3]; exact Full.new w2 _ _
      have d0 := (f3.cell 0 _ rfl).1
      obtain ⟨x0, x1, x2, x3, x4⟩ := hcs.out
      have up : ∀ j u, w2.cell? ⟨q, j, none⟩ = some u → W3.cell? ⟨q, j, none⟩ = some u := fun j u hu => (n3.cell (p := ⟨q, j, none⟩) (World.block_lt_of_cell? w2 _ hu)).trans hu
      have y0 := up _ _ x0
      have y1 := up _ _ x1
      have y2 := up _ _ x2
      have y3 := up _ _ x3
      have y4 := up _ _ x4
      clear x0 x1 x2 x3 x4 up hcs
      obtain ⟨c0, k0⟩ := F3.out.1.cell 0 _ rfl
      obtain ⟨c1, k1⟩ := F3.out.1.cell 1 _ rfl
      obtain ⟨c2, k2⟩ := F3.out.1.cell 2 _ rfl
      obtain ⟨c3, k3⟩ := F3.out.1.cell 3 _ rfl
      obtain ⟨c4, k4⟩ := F3.out.1.cell 4 _ rfl
      clear n3 f3 hb2 HF
      subst hW3
      go_wp2
      refine bodyPost_ret (ret_whole (F3.out.1.five _ _ _ _ _) rfl) rfl ?_
      exact ⟨congrArg Ending.returned HW.out.symm, below_five F3.out.2 _ _ _ _ _⟩
end Go.Proofs.YtichbejmelkjeaaDoor
