import Derived.Test.YtichbejmelkjeaaDoorcPa
import Derived.Lib.ItoaLen
namespace Go.Proofs.YtichbejmelkjeaaDoor
open Go.RowKit

theorem set_cell_ne {w : World} {a b : Addr} {v : Value} (h : a.block ≠ b.block) : (w.setCell b v).cell? a = w.cell? a := World.cell?_of_block (set_heap h)
theorem itoa_any (n : Int) (w : World) (h0 : -9223372036854775808 ≤ n ∧ n ≤ 9223372036854775807) (ht : Tab10 w) :
    Calls Tryd.prog 11 #[.int .i64 n] w fun e w' => ∃ s : ByteArray, e = .returned (.string s) ∧ s.data.toList = Lib.itoa n ∧ Below w.heap.size w w' := by
  refine (Tryd.strconv_Itoa n h0.1 h0.2 w ht).mono ?_
  rintro e w' ⟨rfl, k, os, rfl⟩
  exact ⟨_, rfl, rfl, below_regrown w (w.drawn + k) os⟩
/-- A block that is known in full is a list of its own. -/
theorem own_full {w : World} {g base : Nat} {xs : List Value} (hf : Full w g 9 xs) (hb : base ≤ g) (hl : xs.length ≤ 1000) : w.ownsRow base 9 1 (.slice (some ⟨g, 0, none⟩) xs.length xs.length) xs.length xs := by
  refine ⟨by simp, Or.inr ⟨g, xs.length, xs.toArray, rfl, hb, hf, Nat.le_refl _, by unfold maxLen; omega, by simp, by simp⟩⟩

/-- A point's words. -/
def pwS (c : Cm) : List (List UInt8) := (if c.pk = 1 then Lib.itoa c.line else c.name) :: (if c.cond = [] then [] else [ifw, c.cond])
set_option maxRecDepth 100000 in
set_option maxHeartbeats 4000000 in
theorem pointWords_any (c : Cm) (nm cd : ByteArray) (hnm : nm.data.toList = c.name) (hcd : cd.data.toList = c.cond) (w : World) (hT : Tb w) (hn : -9223372036854775808 ≤ c.line ∧ c.line ≤ 9223372036854775807) :
    Calls Tryd.prog 23 #[.agg #[.int .i64 c.pk, .int .i64 c.line, .string nm, .string cd, .bool c.off]] w fun e w' => ∃ G cap, e = .returned (.slice (some ⟨G, 0, none⟩) (pwS c).length cap) ∧ Hid (w'.ownsRow w.heap.size 9 1 (.slice (some ⟨G, 0, none⟩) (pwS c).length cap) (pwS c).length ((pwS c).map sV) ∧ Below w.heap.size w w') := by
  obtain ⟨X1, hX1⟩ : ∃ X1, w.alloc (.cells #[.int .i64 c.pk, .int .i64 c.line, .string nm, .string cd, .bool c.off] 37) = X1 := ⟨_, rfl⟩
  have b1 : Below w.heap.size w X1 := by rw [← hX1]; exact (Below.refl _ w).alloc (Nat.le_refl _) _
  have f1 : Full X1 w.heap.size 37 [.int .i64 c.pk, .int .i64 c.line, .string nm, .string cd, .bool c.off] := by rw [← hX1]; exact Full.new w _ _
  have z1 : X1.heap.size = w.heap.size + 1 := by rw [← hX1]; simp
  obtain ⟨X2, hX2⟩ : ∃ X2, X1.alloc (.cells #[.string nm] 9) = X2 := ⟨_, rfl⟩
  have n2 : Below X1.heap.size X1 X2 := by rw [← hX2]; exact (Below.refl _ X1).alloc (Nat.le_refl _) _
  have b2 : Below w.heap.size w X2 := b1.trans (n2.mono b1.size)
  have f2 : Full X2 (w.heap.size + 1) 9 [.string nm] := by rw [← hX2, ← z1]; exact Full.new X1 _ _
  have f12 := f1.next n2
  obtain ⟨⟨e0, -⟩, ⟨e1, -⟩, ⟨e2, -⟩, ⟨e3, -⟩, ⟨e4, -⟩⟩ := f1.cell5
  obtain ⟨⟨c0, -⟩, ⟨c1, -⟩, ⟨c2, -⟩, ⟨c3, -⟩, ⟨c4, -⟩⟩ := f12.cell5
  -- what is left behind the first word: F, the world W, the first word x
  have hrest : ∀ (W : World) (x : ByteArray), Full W (w.heap.size + 1) 9 [.string x] → Below w.heap.size w W → x.data.toList = (if c.pk = 1 then Lib.itoa c.line else c.name) → (c.cond = [] → Hid (W.ownsRow w.heap.size 9 1 (.slice (some ⟨w.heap.size + 1, 0, none⟩) 1 1) (pwS c).length ((pwS c).map sV) ∧ (pwS c).length = 1 ∧ Below w.heap.size w W)) ∧ (c.cond ≠ [] → ∃ G cap w9, (Builtin.append_ #[26, 26] 26 #[.slice (some ⟨w.heap.size + 1, 0, none⟩) 1 1, .slice (some ⟨W.heap.size, 0, none⟩) 2 2]).run Tryd.prog (W.alloc (.cells #[.string ⟨#[105, 102]⟩, .string cd] 9)) = .ok (.slice (some ⟨G, 0, none⟩) 3 cap) w9 ∧ Hid (w9.ownsRow w.heap.size 9 1 (.slice (some ⟨G, 0, none⟩) 3 cap) (pwS c).length ((pwS c).map sV) ∧ (pwS c).length = 3 ∧ Below w.heap.size w w9)) := by
    intro W x hF hB hx
    have hbx := hF.lt
    refine ⟨fun h0 => ?_, fun h0 => ?_⟩
    · have e : pwS c = [x.data.toList] := by unfold pwS; rw [← hx, if_pos h0]
      have := own_full (base := w.heap.size) hF (by omega) (by simp)
      rw [e]
      refine ⟨?_, rfl, hB⟩
      rw [List.map_cons, List.map_nil, sV_at (x := x) rfl]
      exact this
    · have e : pwS c = [x.data.toList, ifw, c.cond] := by unfold pwS; rw [← hx, if_neg h0]
      have bZ : Below W.heap.size W (W.alloc (.cells #[.string ⟨#[105, 102]⟩, .string cd] 9)) := (Below.refl _ W).alloc (Nat.le_refl _) _
      have fZ : Full (W.alloc (.cells #[.string ⟨#[105, 102]⟩, .string cd] 9)) W.heap.size 9 [.string ⟨#[105, 102]⟩, .string cd] := Full.new W _ _
      have oZ := own_full (base := w.heap.size) (hF.next bZ) (by omega) (by simp)
      obtain ⟨G, cap, w9, r9, o9, g9⟩ := app_src (P := Tryd.prog) 26 26 _ 16 Tryd.underlying26 info_S rfl (by decide) (by decide) oZ (some ⟨W.heap.size, 0, none⟩) 2 2 [.string ⟨#[105, 102]⟩, .string cd] rfl (by simp) (fun _ => ⟨_, _, rfl, fZ.range⟩) (by simp [Value.oneCell']) (by simp) (by have := hB.size; simp; omega)
      refine ⟨G, cap, w9, r9, ?_, by rw [e]; rfl, ?_⟩
      · rw [e, List.map_cons, List.map_cons, List.map_cons, List.map_nil, sV_at (x := x) rfl, sV_at hcd]
        exact o9
      · have hBZ := hB.trans (bZ.mono hB.size)
        exact hBZ.grown g9 hBZ.size (fun k e => by cases e; omega)
  have HRest : Hid _ := hrest
  have hpk : (c.pk == 1) = true ∨ (c.pk == 1) = false := by cases h : (c.pk == 1) <;> simp
  have hce : ((cd.toList == []) = true ∧ c.cond = []) ∨ ((cd.toList == []) = false ∧ c.cond ≠ []) := by
    rw [Lx.toL, hcd]
    cases c.cond with
    | nil => left; exact ⟨rfl, rfl⟩
    | cons a b => right; exact ⟨rfl, by simp⟩
  have HI : Hid (∀ W, Below w.heap.size w W → Calls Tryd.prog 11 #[.int .i64 c.line] W fun e w' => ∃ s : ByteArray, e = .returned (.string s) ∧ s.data.toList = Lib.itoa c.line ∧ Below W.heap.size W w') := fun W hW => itoa_any c.line W hn (hT.next hW).p10
  have HF2 : Hid (Full X2 (w.heap.size + 1) 9 [.string nm] ∧ Below w.heap.size w X2 ∧ ∀ W, Below X2.heap.size X2 W → Full W (w.heap.size + 1) 9 [.string nm] ∧ W.cell? ⟨w.heap.size, 3, none⟩ = some (.string cd) ∧ Below w.heap.size w W) := ⟨f2, b2, fun W h => ⟨f2.next h, ((f12.next h).cell 3 _ rfl).1, b2.trans (h.mono b2.size)⟩⟩
  clear hrest f1 f12 f2 b1 n2 hT hcd
  rcases hpk with hp | hp
  · have hp1 : Hid (c.pk = 1) := by show c.pk = 1; simpa using hp
    have HItoa := HI.out X2 b2
    clear HI b2
    rcases hce with ⟨hc0, hc1⟩ | ⟨hc0, hc1⟩
    · go_enter Tryd.func23, Tryd.ntmps23
      go_wp2_with fail
      refine HItoa.mono ?_
      rintro e w3 ⟨s, rfl, hs, hb3⟩
      clear HItoa
      obtain ⟨f3, cc, b3⟩ := HF2.out.2.2 w3 hb3
      obtain ⟨t0, t1⟩ := f3.cell 0 _ rfl
      have f4 : Full (w3.setCell ⟨w.heap.size + 1, 0, none⟩ (.string s)) (w.heap.size + 1) 9 [.string s] := Full.put1 (a := []) f3 _
      have b4 : Below w.heap.size w (w3.setCell ⟨w.heap.size + 1, 0, none⟩ (.string s)) := b3.setCell (p := ⟨w.heap.size + 1, 0, none⟩) (by show _ ≤ w.heap.size + 1; omega) _
      have cc4 : (w3.setCell ⟨w.heap.size + 1, 0, none⟩ (.string s)).cell? ⟨w.heap.size, 3, none⟩ = some (.string cd) := by rw [set_cell_ne (by show w.heap.size ≠ w.heap.size + 1; omega)]; exact cc
      obtain ⟨Y, hY⟩ : ∃ Y, w3.setCell ⟨w.heap.size + 1, 0, none⟩ (.string s) = Y := ⟨_, rfl⟩
      rw [hY] at f4 b4 cc4
      have hR := HRest.out Y s f4 b4 (by rw [if_pos hp1.out]; exact hs)
      have HD : Hid _ := hR.1 hc1
      clear hR HRest HF2 hn f3 b3 f4 b4 hb3
      go_wp2
      go_ret
      refine ⟨w.heap.size + 1, 1, ?_, ?_⟩
      · rw [HD.out.2.1]
        exact rfl
      · obtain ⟨o1, o2, o3⟩ := HD.out
        show _ ∧ _
        rw [o2] at o1 ⊢
        exact ⟨o1, o3⟩
    · go_enter Tryd.func23, Tryd.ntmps23
      go_wp2_with fail
      refine HItoa.mono ?_
      rintro e w3 ⟨s, rfl, hs, hb3⟩
      clear HItoa
      obtain ⟨f3, cc, b3⟩ := HF2.out.2.2 w3 hb3
      obtain ⟨t0, t1⟩ := f3.cell 0 _ rfl
      have f4 : Full (w3.setCell ⟨w.heap.size + 1, 0, none⟩ (.string s)) (w.heap.size + 1) 9 [.string s] := Full.put1 (a := []) f3 _
      have b4 : Below w.heap.size w (w3.setCell ⟨w.heap.size + 1, 0, none⟩ (.string s)) := b3.setCell (p := ⟨w.heap.size + 1, 0, none⟩) (by show _ ≤ w.heap.size + 1; omega) _
      have cc4 : (w3.setCell ⟨w.heap.size + 1, 0, none⟩ (.string s)).cell? ⟨w.heap.size, 3, none⟩ = some (.string cd) := by rw [set_cell_ne (by show w.heap.size ≠ w.heap.size + 1; omega)]; exact cc
      obtain ⟨Y, hY⟩ : ∃ Y, w3.setCell ⟨w.heap.size + 1, 0, none⟩ (.string s) = Y := ⟨_, rfl⟩
      rw [hY] at f4 b4 cc4
      have hR := HRest.out Y s f4 b4 (by rw [if_pos hp1.out]; exact hs)
      obtain ⟨G, cap, w9, r9, HD⟩ := hR.2 hc1
      clear hR HRest HF2 hn f3 b3 f4 b4 hb3
      go_wp2_with (first
        | (at_builtin; refine wpList_apr (by rfl) _ _ 26 (by rfl) (by exact r9) ?_)
        | go_in)
      go_ret
      refine ⟨G, cap, ?_, ?_⟩
      · rw [HD.out.2.1]
        exact rfl
      · obtain ⟨o1, o2, o3⟩ := HD.out
        show _ ∧ _
        rw [o2] at o1 ⊢
        exact ⟨o1, o3⟩
  · have hp1 : Hid (¬ c.pk = 1) := by show ¬ c.pk = 1; simpa using hp
    rcases hce with ⟨hc0, hc1⟩ | ⟨hc0, hc1⟩
    · have hR := HRest.out X2 nm HF2.out.1 HF2.out.2.1 (by rw [if_neg hp1.out]; exact hnm)
      have HD : Hid _ := hR.1 hc1
      clear hR HRest HF2 hn b2 HI
      go_enter Tryd.func23, Tryd.ntmps23
      go_wp2
      go_ret
      refine ⟨w.heap.size + 1, 1, ?_, ?_⟩
      · rw [HD.out.2.1]
        exact rfl
      · obtain ⟨o1, o2, o3⟩ := HD.out
        show _ ∧ _
        rw [o2] at o1 ⊢
        exact ⟨o1, o3⟩
    · have hR := HRest.out X2 nm HF2.out.1 HF2.out.2.1 (by rw [if_neg hp1.out]; exact hnm)
      obtain ⟨G, cap, w9, r9, HD⟩ := hR.2 hc1
      clear hR HRest HF2 hn b2 HI
      go_enter Tryd.func23, Tryd.ntmps23
      go_wp2_with (first
        | (at_builtin; refine wpList_apr (by rfl) _ _ 26 (by rfl) (by exact r9) ?_)
        | go_in)
      go_ret
      refine ⟨G, cap, ?_, ?_⟩
      · rw [HD.out.2.1]
        exact rfl
      · obtain ⟨o1, o2, o3⟩ := HD.out
        show _ ∧ _
        rw [o2] at o1 ⊢
        exact ⟨o1, o3⟩
end Go.Proofs.YtichbejmelkjeaaDoor
