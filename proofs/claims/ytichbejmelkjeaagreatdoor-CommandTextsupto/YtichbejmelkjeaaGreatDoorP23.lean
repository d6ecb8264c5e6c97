import Derived.Lib.ItoaLen
import Derived.Test.YtichbejmelkjeaaGreatDoorP20
namespace Go.Proofs.YtichbejmelkjeaaGreatDoor
open Go.RowKit

theorem set_cell_ne {w : World} {a b : Addr} {v : Value} (h : a.block ≠ b.block) : (w.setCell b v).cell? a = w.cell? a := World.cell?_of_block (set_heap h)
theorem itoa_any (n : Int) (w : World) (h0 : -9223372036854775808 ≤ n ∧ n ≤ 9223372036854775807) (ht : Tab10 w) :
    Calls Tryz.prog 17 #[.int .i64 n] w fun e w' => ∃ s : ByteArray, e = .returned (.string s) ∧ s.data.toList = Lib.itoa n ∧ Below w.heap.size w w' := by
  refine (Tryz.strconv_Itoa n h0.1 h0.2 w ht).mono ?_
  rintro e w' ⟨rfl, k, os, rfl⟩
  exact ⟨_, rfl, rfl, below_regrown w (w.drawn + k) os⟩
/-- A block that is known in full is a list of its own. -/
theorem own_full {w : World} {g base : Nat} {xs : List Value} (hf : Full w g 9 xs) (hb : base ≤ g) (hl : xs.length ≤ 1000) : w.ownsRow base 9 1 (.slice (some ⟨g, 0, none⟩) xs.length xs.length) xs.length xs := by
  refine ⟨by simp, Or.inr ⟨g, xs.length, xs.toArray, rfl, hb, hf, Nat.le_refl _, by unfold maxLen; omega, by simp, by simp⟩⟩

/-- A point's words. -/
def pwS (c : Cm) : List (List UInt8) := (if c.pk = 1 then Lib.itoa c.line else c.name) :: (if c.cond = [] then [] else [ifw, c.cond])
set_option maxRecDepth 100000 in
set_option maxHeartbeats 4000000 in
theorem pointWords_any (c : Cm) (nm cd : ByteArray) (hnm : nm.data.toList = c.name) (hcd : cd.data.toList = c.cond) (w : World) (hT : Tb w) (hn : -9223372036854775808 ≤ c.line ∧ c.line ≤ 9223372036854775807) :
    Calls Tryz.prog 58 #[.agg #[.int .i64 c.pk, .int .i64 c.line, .string nm, .string cd, .bool c.off]] w fun e w' => ∃ G cap, e = .returned (.slice (some ⟨G, 0, none⟩) (pwS c).length cap) ∧ Hid (w'.ownsRow w.heap.size 9 1 (.slice (some ⟨G, 0, none⟩) (pwS c).length cap) (pwS c).length ((pwS c).map sV) ∧ Below w.heap.size w w') := by
  obtain ⟨X1, hX1⟩ : ∃ X1, w.alloc (.cells #[.int .i64 c.pk, .int .i64 c.line, .string nm, .string cd, .bool c.off] 49) = X1 := ⟨_, rfl⟩
  have b1 : Below w.heap.size w X1 := by rw [← hX1]; exact (Below.refl _ w).alloc (Nat.le_refl _) _
  have f1 : Full X1 w.heap.size 49 [.int .i64 c.pk, .int .i64 c.line, .string nm, .string cd, .bool c.off] := by rw [← hX1]; exact Full.new w _ _
  have z1 : X1.heap.size = w.heap.size + 1 := by rw [← hX1]; simp
  obtain ⟨X2, hX2⟩ : ∃ X2, X1.alloc (.cells #[.string nm] 9) = X2 := ⟨_, rfl⟩
  have n2 : Below X1.heap.size X1 X2 := by rw [← hX2]; exact (Below.refl _ X1).alloc (Nat.le_refl _) _
  have b2 : Below w.heap.size w X2 := b1.trans (n2.mono b1.size)
  have f2 : Full X2 (w.heap.size + 1) 9 [.string nm] := by rw [← hX2, ← z1]; exact Full.new X1 _ _
  have f12 := f1.next n2
  obtain ⟨⟨e0, -⟩, ⟨e1, -⟩, ⟨e2, -⟩, ⟨e3, -⟩, ⟨e4, -⟩⟩ := f1.cell5
  obtain ⟨⟨c0, -⟩, ⟨c1, -⟩, ⟨c2, -⟩, ⟨c3, -⟩, ⟨c4, -⟩⟩ := f12.cell5
  -- what is left behind the first word: F, the world W, the first word x
  have hrest : ∀ (W : World) (x : ByteArray), Full W (w.heap.size + 1) 9 [.string x] → Below w.heap.size w W → x.data.toList = (if c.pk = 1 then Lib.itoa c.line else c.name) → (c.cond = [] → Hid (W.ownsRow w.heap.size 9 1 (.slice (some ⟨w.heap.size + 1, 0, none⟩) 1 1) (pwS c).length ((pwS c).map sV) ∧ (pwS c).length = 1 ∧ Below w.heap.size w W)) ∧ (c.cond ≠ [] → ∃ G cap w9, (Builtin.append_ #[36, 36] 36 #[.slice (some ⟨w.heap.size + 1, 0, none⟩) 1 1, .slice (some ⟨W.heap.size, 0, none⟩) 2 2]).run Tryz.prog (W.alloc (.cells #[.string ⟨#[105, 102]⟩, .string cd] 9)) = .ok (.slice (some ⟨G, 0, none⟩) 3 cap) w9 ∧ Hid (w9.ownsRow w.heap.size 9 1 (.slice (some ⟨G, 0, none⟩) 3 cap) (pwS c).length ((pwS c).map sV) ∧ (pwS c).length = 3 ∧ Below w.heap.size w w9)) := by
    intro W x hF hB hx
    have hbx := hF.lt
    refine ⟨fun h0 => ?_, fun h0 => ?_⟩
    · have e : pwS c = [x.data.toList] := by unfold pwS; rw [← hx, if_pos h0]
      have := own_full (base := w.heap.size) hF (by omega) (by simp)
      rw [e]
      refine ⟨?_, rfl, hB⟩
      rw [List.map_cons, List.map_nil, sV_at (x := x) rfl]
      exact this
    · have e : pwS c = [x.data.toList, ifw, c.cond] := by unfold pwS; rw [← hx, if_neg h0]
      have bZ : Below W.heap.size W (W.alloc (.cells #[.string ⟨#[105, 102]⟩, .string cd] 9)) := (Below.refl _ W).alloc (Nat.le_refl _) _
      have fZ : Full (W.alloc (.cells #[.string ⟨#[105, 102]⟩, .string cd] 9)) W.heap.size 9 [.string ⟨#[105, 102]⟩, .string cd] := Full.new W _ _
      have oZ := own_full (base := w.heap.size) (hF.next bZ) (by omega) (by simp)
      obtain ⟨G, cap, w9, r9, o9, g9⟩ := app_src (P := Tryz.prog) 36 36 _ 16 Tryz.underlying36 info_S rfl (by decide) (by decide) oZ (some ⟨W.heap.size, 0, none⟩) 2 2 [.string ⟨#[105, 102]⟩, .string cd] rfl (by simp) (fun _ => ⟨_, _, rfl, fZ.range⟩) (by simp [Value.oneCell']) (by simp) (by have := hB.size; simp; omega)
      refine ⟨G, cap, w9, r9, ?_, by rw [e]; rfl, ?_⟩
      · rw [e, List.map_cons, List.map_cons, List.map_cons, List.map_nil, sV_at (x := x) rfl, sV_at hcd]
        exact o9
      · have hBZ := hB.trans (bZ.mono hB.size)
        exact hBZ.grown g9 hBZ.size (fun k e => by cases e; omega)
  have HRest : Hid _ := hrest
  have hpk : (c.pk == 1) = true ∨ (c.pk == 1) = false := by cases h : (c.pk == 1) <;> simp
  have hce : ((cd.toList == []) = true ∧ c.cond = []) ∨ ((cd.toList == []) = false ∧ c.cond ≠ []) := by
    rw [Lx.toL, hcd]
    cases c.cond with
    | nil => left; exact ⟨rfl, rfl⟩
    | cons a b => right; exact ⟨rfl, by simp⟩
  have HI : Hid (∀ W, Below w.heap.size w W → Calls Tryz.prog 17 #[.int .i64 c.line] W fun e w' => ∃ s : ByteArray, e = .returned (.string s) ∧ s.data.toList = Lib.itoa c.line ∧ Below W.heap.size W w') := fun W hW => itoa_any c.line W hn (hT.next hW).p10
  have HF2 : Hid (Full X2 (w.heap.size + 1) 9 [.string nm] ∧ Below w.heap.size w X2 ∧ ∀ W, Below X2.heap.size X2 W → Full W (w.heap.size + 1) 9 [.string nm] ∧ W.cell? ⟨w.heap.size, 3, none⟩ = some (.string cd) ∧ Below w.heap.size w W) := ⟨f2, b2, fun W h => ⟨f2.next h, ((f12.next h).cell 3 _ rfl).1, b2.trans (h.mono b2.size)⟩⟩
  clear hrest f1 f12 f2 b1 n2 hT hcd
  rcases hpk with hp | hp
  · have hp1 : Hid (c.pk = 1) := by show c.pk = 1; simpa using hp
    have HItoa := HI.out X2 b2
    clear HI b2
    rcases hce with ⟨hc0, hc1⟩ | ⟨hc0, hc1⟩
    · go_enter Tryz.func58, Tryz.ntmps58
      go_wp2_with fail
      refine HItoa.mono ?_
      rintro e w3 ⟨s, rfl, hs, hb3⟩
      clear HItoa
      obtain ⟨f3, cc, b3⟩ := HF2.out.2.2 w3 hb3
      obtain ⟨t0, t1⟩ := f3.cell 0 _ rfl
      have f4 : Full (w3.setCell ⟨w.heap.size + 1, 0, none⟩ (.string s)) (w.heap.size + 1) 9 [.string s] := Full.put1 (a := []) f3 _
      have b4 : Below w.heap.size w (w3.setCell ⟨w.heap.size + 1, 0, none⟩ (.string s)) := b3.setCell (p := ⟨w.heap.size + 1, 0, none⟩) (by show _ ≤ w.heap.size + 1; omega) _
      have cc4 : (w3.setCell ⟨w.heap.size + 1, 0, none⟩ (.string s)).cell? ⟨w.heap.size, 3, none⟩ = some (.string cd) := by rw [set_cell_ne (by show w.heap.size ≠ w.heap.size + 1; omega)]; exact cc
      obtain ⟨Y, hY⟩ : ∃ Y, w3.setCell ⟨w.heap.size + 1, 0, none⟩ (.string s) = Y := ⟨_, rfl⟩
      rw [hY] at f4 b4 cc4
      have hR := HRest.out Y s f4 b4 (by rw [if_pos hp1.out]; exact hs)
      have HD : Hid _ := hR.1 hc1
      clear hR HRest HF2 hn f3 b3 f4 b4 hb3
      go_wp2
      go_ret
      refine ⟨w.heap.size + 1, 1, ?_, ?_⟩
      · rw [HD.out.2.1]
        exact rfl
      · obtain ⟨o1, o2, o3⟩ := HD.out
        show _ ∧ _
        rw [o2] at o1 ⊢
        exact ⟨o1, o3⟩
    · go_enter Tryz.func58, Tryz.ntmps58
      go_wp2_with fail
      refine HItoa.mono ?_
      rintro e w3 ⟨s, rfl, hs, hb3⟩
      clear HItoa
      obtain ⟨f3, cc, b3⟩ := HF2.out.2.2 w3 hb3
      obtain ⟨t0, t1⟩ := f3.cell 0 _ rfl
      have f4 : Full (w3.setCell ⟨w.heap.size + 1, 0, none⟩ (.string s)) (w.heap.size + 1) 9 [.string s] := Full.put1 (a := []) f3 _
      have b4 : Below w.heap.size w (w3.setCell ⟨w.heap.size + 1, 0, none⟩ (.string s)) := b3.setCell (p := ⟨w.heap.size + 1, 0, none⟩) (by show _ ≤ w.heap.size + 1; omega) _
      have cc4 : (w3.setCell ⟨w.heap.size + 1, 0, none⟩ (.string s)).cell? ⟨w.heap.size, 3, none⟩ = some (.string cd) := by rw [set_cell_ne (by show w.heap.size ≠ w.heap.size + 1; omega)]; exact cc
      obtain ⟨Y, hY⟩ : ∃ Y, w3.setCell ⟨w.heap.size + 1, 0, none⟩ (.string s) = Y := ⟨_, rfl⟩
      rw [hY] at f4 b4 cc4
      have hR := HRest.out Y s f4 b4 (by rw [if_pos hp1.out]; exact hs)
      obtain ⟨G, cap, w9, r9, HD⟩ := hR.2 hc1
      clear hR HRest HF2 hn f3 b3 f4 b4 hb3
      go_wp2_with (first
        | (at_builtin; refine wpList_apr (by rfl) _ _ 36 (by rfl) (by exact r9) ?_)
        | go_in)
      go_ret
      refine ⟨G, cap, ?_, ?_⟩
      · rw [HD.out.2.1]
        exact rfl
      · obtain ⟨o1, o2, o3⟩ := HD.out
        show _ ∧ _
        rw [o2] at o1 ⊢
        exact ⟨o1, o3⟩
  · have hp1 : Hid (¬ c.pk = 1) := by show ¬ c.pk = 1; simpa using hp
    rcases hce with ⟨hc0, hc1⟩ | ⟨hc0, hc1⟩
    · have hR := HRest.out X2 nm HF2.out.1 HF2.out.2.1 (by rw [if_neg hp1.out]; exact hnm)
      have HD : Hid _ := hR.1 hc1
      clear hR HRest HF2 hn b2 HI
      go_enter Tryz.func58, Tryz.ntmps58
      go_wp2
      go_ret
      refine ⟨w.heap.size + 1, 1, ?_, ?_⟩
      · rw [HD.out.2.1]
        exact rfl
      · obtain ⟨o1, o2, o3⟩ := HD.out
        show _ ∧ _
        rw [o2] at o1 ⊢
        exact ⟨o1, o3⟩
    · have hR := HRest.out X2 nm HF2.out.1 HF2.out.2.1 (by rw [if_neg hp1.out]; exact hnm)
      obtain ⟨G, cap, w9, r9, HD⟩ := hR.2 hc1
      clear hR HRest HF2 hn b2 HI
      go_enter Tryz.func58, Tryz.ntmps58
      go_wp2_with (first
        | (at_builtin; refine wpList_apr (by rfl) _ _ 36 (by rfl) (by exact r9) ?_)
        | go_in)
      go_ret
      refine ⟨G, cap, ?_, ?_⟩
      · rw [HD.out.2.1]
        exact rfl
      · obtain ⟨o1, o2, o3⟩ := HD.out
        show _ ∧ _
        rw [o2] at o1 ⊢
        exact ⟨o1, o3⟩
end Go.Proofs.YtichbejmelkjeaaGreatDoor

namespace Go.Proofs.YtichbejmelkjeaaGreatDoor
open Go.RowKit

/-- A command's words. -/
def wrS (c : Cm) : List (List UInt8) := if c.kind < 0 ∨ 23 ≤ c.kind then [] else (rws.getD c.kind.toNat ([], 0)).1 :: (if tks c.kind.toNat = 2 ∨ tks c.kind.toNat = 3 then pwS c else if tks c.kind.toNat = 4 ∨ tks c.kind.toNat = 5 then [Lib.itoa c.n] else if tks c.kind.toNat = 6 then [c.text] else [])
def WrP (w : World) (c : Cm) (e : Ending) (w' : World) : Prop :=
  ∃ q cap, e = .returned (.slice q (wrS c).length cap) ∧ Hid (((wrS c = [] ∧ q = none) ∨ ∃ G, q = some ⟨G, 0, none⟩ ∧ w'.rangeAt G 0 ((wrS c).map sV) ∧ (wrS c).length ≤ cap ∧ G < w'.heap.size) ∧ Below w.heap.size w w')
theorem WrP.own {w w' : World} {c : Cm} {G n cap : Nat} (h : w'.ownsRow w.heap.size 9 1 (.slice (some ⟨G, 0, none⟩) n cap) n ((wrS c).map sV)) (hn : n = (wrS c).length) (hb : Below w.heap.size w w') : WrP w c (.returned (.slice (some ⟨G, 0, none⟩) n cap)) w' := by
  subst hn
  have hlt := (h.lt _ rfl).2
  obtain ⟨q, cp, e, hc, hr⟩ := own_slice h
  simp only [Value.slice.injEq] at e
  obtain ⟨rfl, -, rfl⟩ := e
  by_cases h0 : 0 < (wrS c).length
  · obtain ⟨g, hq, hr⟩ := hr h0
    cases hq
    exact ⟨_, _, rfl, .inr ⟨G, rfl, hr, hc, hlt⟩, hb⟩
  · have hz : wrS c = [] := List.eq_nil_of_length_eq_zero (by omega)
    exact ⟨_, _, rfl, .inr ⟨G, rfl, by rw [hz]; intro j v hv; simp at hv, hc, hlt⟩, hb⟩

set_option maxRecDepth 100000 in
set_option maxHeartbeats 4000000 in
theorem written_any (kd pk ln nn : Int) (nm cd tx : ByteArray) (off : Bool) (w : World) (hT : Tb w) (hl : -9223372036854775808 ≤ ln ∧ ln ≤ 9223372036854775807) (hn : -9223372036854775808 ≤ nn ∧ nn ≤ 9223372036854775807) :
    Calls Tryz.prog 30 #[.agg #[.int .i64 kd, .int .i64 pk, .int .i64 ln, .string nm, .string cd, .bool off, .int .i64 nn, .string tx]] w (WrP w ⟨kd, pk, ln, nm.data.toList, cd.data.toList, off, nn, tx.data.toList⟩) := by
  obtain ⟨c, hc⟩ : ∃ c : Cm, c = ⟨kd, pk, ln, nm.data.toList, cd.data.toList, off, nn, tx.data.toList⟩ := ⟨_, rfl⟩
  rw [← hc]
  obtain ⟨X1, hX1⟩ : ∃ X1, w.alloc (.cells #[.int .i64 kd, .int .i64 pk, .int .i64 ln, .string nm, .string cd, .bool off, .int .i64 nn, .string tx] 51) = X1 := ⟨_, rfl⟩
  have b1 : Below w.heap.size w X1 := by rw [← hX1]; exact (Below.refl _ w).alloc (Nat.le_refl _) _
  have f1 : Full X1 w.heap.size 51 [.int .i64 kd, .int .i64 pk, .int .i64 ln, .string nm, .string cd, .bool off, .int .i64 nn, .string tx] := by rw [← hX1]; exact Full.new w _ _
  have z1 : X1.heap.size = w.heap.size + 1 := by rw [← hX1]; simp
  obtain ⟨⟨e0, -⟩, ⟨e1, -⟩, ⟨e2, -⟩, ⟨e3, -⟩, ⟨e4, -⟩, ⟨e5, -⟩, ⟨e6, -⟩, ⟨e7, -⟩⟩ := f1.cell8
  by_cases hbad : kd < 0 ∨ 23 ≤ kd
  · have HW : Hid (wrS c = []) := by
      show wrS c = []
      unfold wrS; rw [hc]; exact if_pos hbad
    have hB : Hid (Below w.heap.size w X1) := b1
    have hq : kd < 0 ∨ (¬ kd < 0 ∧ 23 ≤ kd) := by omega
    clear hc f1 b1 z1 hbad hT
    rcases hq with h | ⟨h, h'⟩
    all_goals
      go_enter Tryz.func30, Tryz.ntmps30
      go_wp2
      go_ret
      unfold WrP
      rw [HW.out]
      exact ⟨none, 0, rfl, .inl ⟨rfl, rfl⟩, hB.out⟩
  · obtain ⟨kn, rfl⟩ : ∃ kn : Nat, kd = (kn : Int) := ⟨kd.toNat, by omega⟩
    have hkl : kn < 23 := by omega
    have hk0 : ¬ (kn : Int) < 0 := by omega
    have hk1 : ¬ (23 : Int) ≤ (kn : Int) := by omega
    have hk2 : (0 : Int) ≤ (kn : Int) := by omega
    have hk3 : (kn : Int) < 23 := by omega
    obtain ⟨tn, htn⟩ : ∃ tn, tks kn = tn := ⟨_, rfl⟩
    obtain ⟨wd, hwd⟩ : ∃ wd : ByteArray, wd.data.toList = (rws.getD kn ([], 0)).1 := ⟨⟨(rws.getD kn ([], 0)).1.toArray⟩, rfl⟩
    have hwdA : (⟨(rws.getD kn ([], 0)).1.toArray⟩ : ByteArray) = wd := by rw [← hwd]
    have hWr : wrS c = wd.data.toList :: (if tn = 2 ∨ tn = 3 then pwS c else if tn = 4 ∨ tn = 5 then [Lib.itoa nn] else if tn = 6 then [tx.data.toList] else []) := by
      unfold wrS
      have e1 : c.kind = (kn : Int) := by rw [hc]
      have e2 : c.n = nn := by rw [hc]
      have e3 : c.text = tx.data.toList := by rw [hc]
      rw [e1, e2, e3, if_neg hbad, Int.toNat_natCast, htn, ← hwd]
    have hTX := hT.next b1
    have cw : X1.cell? ⟨3, kn * 2, none⟩ = some (.string wd) := by rw [← hwdA]; exact hTX.word kn hkl
    have ct1 : X1.cell? ⟨3, kn * 2 + 1, none⟩ = some (.int .i64 (tn : Int)) := by rw [← htn]; exact hTX.takes kn hkl
    obtain ⟨X2, hX2⟩ : ∃ X2, X1.alloc (.cells #[.string wd] 9) = X2 := ⟨_, rfl⟩
    have n2 : Below X1.heap.size X1 X2 := by rw [← hX2]; exact (Below.refl _ X1).alloc (Nat.le_refl _) _
    have b2 : Below w.heap.size w X2 := b1.trans (n2.mono b1.size)
    have f2 : Full X2 (w.heap.size + 1) 9 [.string wd] := by rw [← hX2, ← z1]; exact Full.new X1 _ _
    obtain ⟨⟨c0, -⟩, ⟨c1, -⟩, ⟨c2, -⟩, ⟨c3, -⟩, ⟨c4, -⟩, ⟨c5, -⟩, ⟨c6, -⟩, ⟨c7, -⟩⟩ := (f1.next n2).cell8
    have hT2 := hT.next b2
    have ct2 : X2.cell? ⟨3, kn * 2 + 1, none⟩ = some (.int .i64 (tn : Int)) := by rw [← htn]; exact hT2.takes kn hkl
    have HB : ∀ i : Nat, (tn = i → ((tn : Int) == (i : Int)) = true) ∧ (tn ≠ i → ((tn : Int) == (i : Int)) = false) := fun i => ⟨fun h => by rw [h]; exact beq_self_eq_true _, fun h => by rw [beq_eq_false_iff_ne]; omega⟩
    -- an append of m words that lie at g
    have happ : ∀ (W : World) (g m cp : Nat) (ys : List (List UInt8)), Below X2.heap.size X2 W → W.rangeAt g 0 (ys.map sV) → ys.length = m → m ≤ 10 → wrS c = wd.data.toList :: ys → ∃ G cap w9, (Builtin.append_ #[36, 36] 36 #[.slice (some ⟨w.heap.size + 1, 0, none⟩) 1 1, .slice (some ⟨g, 0, none⟩) m cp]).run Tryz.prog W = .ok (.slice (some ⟨G, 0, none⟩) (1 + m) cap) w9 ∧ Hid (WrP w c (.returned (.slice (some ⟨G, 0, none⟩) (1 + m) cap)) w9) := by
      intro W g m cp ys hb hr hm hm10 hw
      have hBW := b2.trans (hb.mono b2.size)
      have oW := own_full (base := w.heap.size) (f2.next hb) (by omega) (by simp)
      obtain ⟨G, cap, w9, r9, o9, g9⟩ := app_src (P := Tryz.prog) 36 36 _ 16 Tryz.underlying36 info_S rfl (by decide) (by decide) oW (some ⟨g, 0, none⟩) m cp (ys.map sV) (by rw [List.length_map, Nat.mul_one]; exact hm) (by simp) (fun _ => ⟨_, _, rfl, hr⟩) (by intro u hu; obtain ⟨y, -, rfl⟩ := List.mem_map.1 hu; rfl) (by simp; omega) hBW.size
      refine ⟨G, cap, w9, r9, WrP.own ?_ (by rw [hw, List.length_cons, hm]; omega) (hBW.grown g9 hBW.size (fun k e => by cases e; omega))⟩
      rw [hw, List.map_cons, sV_at (x := wd) rfl]
      exact o9
    have HApp : Hid _ := happ
    have HTb : Hid (∀ W, Below X2.heap.size X2 W → Tb W) := fun W h => hT2.next h
    clear happ
    by_cases h2 : tn = 2
    · have HWr : Hid (wrS c = wd.data.toList :: pwS c) := by
        show wrS c = _
        rw [hWr, if_pos (by omega)]
      have HC := pointWords_any c nm cd (by rw [hc]) (by rw [hc]) X2 hT2 (by rw [hc]; exact hl)
      have hpl : (pwS c).length ≤ 10 := by unfold pwS; rw [List.length_cons]; by_cases h : c.cond = [] <;> simp [h]
      have ee : c.pk = pk ∧ c.line = ln ∧ c.off = off := by rw [hc]; exact ⟨rfl, rfl, rfl⟩
      rw [ee.1, ee.2.1, ee.2.2] at HC
      have q2 := (HB 2).1 h2
      have q3 := (HB 3).2 (by omega)
      have q4 := (HB 4).2 (by omega)
      have q5 := (HB 5).2 (by omega)
      have q6 := (HB 6).2 (by omega)
      clear HB hWr hc f1 n2 b1 hT hTX hT2 hwd hwdA htn hl hn hkl hbad f2 ee h2 b2
      go_enter Tryz.func30, Tryz.ntmps30
      go_wp2_with fail
      refine HC.mono ?_
      rintro e w3 ⟨G3, cap3, rfl, hq⟩
      clear HC
      have hr3 : w3.rangeAt G3 0 ((pwS c).map sV) := by
        obtain ⟨q, cp, e, -, hr⟩ := own_slice hq.out.1
        simp only [Value.slice.injEq] at e
        obtain ⟨rfl, -, -⟩ := e
        obtain ⟨g, hg, hr⟩ := hr (by unfold pwS; simp)
        cases hg; exact hr
      obtain ⟨G, cap, w9, r9, HD⟩ := HApp.out w3 G3 (pwS c).length cap3 (pwS c) hq.out.2 hr3 rfl hpl HWr.out
      clear hr3 HApp hq
      obtain ⟨m, hm⟩ : ∃ m, (pwS c).length = m := ⟨_, rfl⟩
      rw [hm] at r9 HD ⊢
      clear hm hpl
      go_wp2_with (first
        | (at_builtin; refine wpList_apr (by rfl) _ _ 36 (by rfl) (by exact r9) ?_)
        | go_in)
      go_ret
      exact HD.out
    by_cases h3 : tn = 3
    · have HWr : Hid (wrS c = wd.data.toList :: pwS c) := by
        show wrS c = _
        rw [hWr, if_pos (by omega)]
      have HC := pointWords_any c nm cd (by rw [hc]) (by rw [hc]) X2 hT2 (by rw [hc]; exact hl)
      have hpl : (pwS c).length ≤ 10 := by unfold pwS; rw [List.length_cons]; by_cases h : c.cond = [] <;> simp [h]
      have ee : c.pk = pk ∧ c.line = ln ∧ c.off = off := by rw [hc]; exact ⟨rfl, rfl, rfl⟩
      rw [ee.1, ee.2.1, ee.2.2] at HC
      have q2 := (HB 2).2 (by omega)
      have q3 := (HB 3).1 h3
      have q4 := (HB 4).2 (by omega)
      have q5 := (HB 5).2 (by omega)
      have q6 := (HB 6).2 (by omega)
      clear HB hWr hc f1 n2 b1 hT hTX hT2 hwd hwdA htn hl hn hkl hbad f2 ee h3 b2
      go_enter Tryz.func30, Tryz.ntmps30
      go_wp2_with fail
      refine HC.mono ?_
      rintro e w3 ⟨G3, cap3, rfl, hq⟩
      clear HC
      have hr3 : w3.rangeAt G3 0 ((pwS c).map sV) := by
        obtain ⟨q, cp, e, -, hr⟩ := own_slice hq.out.1
        simp only [Value.slice.injEq] at e
        obtain ⟨rfl, -, -⟩ := e
        obtain ⟨g, hg, hr⟩ := hr (by unfold pwS; simp)
        cases hg; exact hr
      obtain ⟨G, cap, w9, r9, HD⟩ := HApp.out w3 G3 (pwS c).length cap3 (pwS c) hq.out.2 hr3 rfl hpl HWr.out
      clear hr3 HApp hq
      obtain ⟨m, hm⟩ : ∃ m, (pwS c).length = m := ⟨_, rfl⟩
      rw [hm] at r9 HD ⊢
      clear hm hpl
      go_wp2_with (first
        | (at_builtin; refine wpList_apr (by rfl) _ _ 36 (by rfl) (by exact r9) ?_)
        | go_in)
      go_ret
      exact HD.out
    by_cases h4 : tn = 4
    · have HWr : Hid (wrS c = wd.data.toList :: [Lib.itoa nn]) := by
        show wrS c = _
        rw [hWr, if_neg (by omega), if_pos (by omega)]
      have HC := itoa_any nn X2 hn hT2.p10
      have q2 := (HB 2).2 (by omega)
      have q3 := (HB 3).2 (by omega)
      have q4 := (HB 4).1 h4
      have q5 := (HB 5).2 (by omega)
      have q6 := (HB 6).2 (by omega)
      clear HB hWr hc f1 n2 b1 hT hTX hT2 hwd hwdA htn hl hn hkl hbad f2 h4 b2
      go_enter Tryz.func30, Tryz.ntmps30
      go_wp2_with fail
      refine HC.mono ?_
      rintro e w3 ⟨s, rfl, hs, hb3⟩
      clear HC
      obtain ⟨Z, hZ⟩ : ∃ Z, w3.alloc (.cells #[.string s] 9) = Z := ⟨_, rfl⟩
      have bZ : Below X2.heap.size X2 Z := by rw [← hZ]; exact hb3.alloc hb3.size _
      have fZ : Full Z w3.heap.size 9 [.string s] := by rw [← hZ]; exact Full.new w3 _ _
      obtain ⟨G, cap, w9, r9, HD⟩ := HApp.out Z w3.heap.size 1 1 [Lib.itoa nn] bZ (by rw [List.map_cons, List.map_nil, sV_at hs]; exact fZ.range) rfl (by omega) HWr.out
      clear bZ fZ hb3 HApp hs
      go_wp2_with (first
        | (at_builtin; refine wpList_apr (by rfl) _ _ 36 (by rfl) (by exact r9) ?_)
        | go_in)
      go_ret
      exact HD.out
    by_cases h5 : tn = 5
    · have HWr : Hid (wrS c = wd.data.toList :: [Lib.itoa nn]) := by
        show wrS c = _
        rw [hWr, if_neg (by omega), if_pos (by omega)]
      have HC := itoa_any nn X2 hn hT2.p10
      have q2 := (HB 2).2 (by omega)
      have q3 := (HB 3).2 (by omega)
      have q4 := (HB 4).2 (by omega)
      have q5 := (HB 5).1 h5
      have q6 := (HB 6).2 (by omega)
      clear HB hWr hc f1 n2 b1 hT hTX hT2 hwd hwdA htn hl hn hkl hbad f2 h5 b2
      go_enter Tryz.func30, Tryz.ntmps30
      go_wp2_with fail
      refine HC.mono ?_
      rintro e w3 ⟨s, rfl, hs, hb3⟩
      clear HC
      obtain ⟨Z, hZ⟩ : ∃ Z, w3.alloc (.cells #[.string s] 9) = Z := ⟨_, rfl⟩
      have bZ : Below X2.heap.size X2 Z := by rw [← hZ]; exact hb3.alloc hb3.size _
      have fZ : Full Z w3.heap.size 9 [.string s] := by rw [← hZ]; exact Full.new w3 _ _
      obtain ⟨G, cap, w9, r9, HD⟩ := HApp.out Z w3.heap.size 1 1 [Lib.itoa nn] bZ (by rw [List.map_cons, List.map_nil, sV_at hs]; exact fZ.range) rfl (by omega) HWr.out
      clear bZ fZ hb3 HApp hs
      go_wp2_with (first
        | (at_builtin; refine wpList_apr (by rfl) _ _ 36 (by rfl) (by exact r9) ?_)
        | go_in)
      go_ret
      exact HD.out
    by_cases h6 : tn = 6
    · have HWr : Hid (wrS c = wd.data.toList :: [tx.data.toList]) := by
        show wrS c = _
        rw [hWr, if_neg (by omega), if_neg (by omega), if_pos h6]
      have q2 := (HB 2).2 (by omega)
      have q3 := (HB 3).2 (by omega)
      have q4 := (HB 4).2 (by omega)
      have q5 := (HB 5).2 (by omega)
      have q6 := (HB 6).1 h6
      obtain ⟨Z, hZ⟩ : ∃ Z, X2.alloc (.cells #[.string tx] 9) = Z := ⟨_, rfl⟩
      have bZ : Below X2.heap.size X2 Z := by rw [← hZ]; exact (Below.refl _ X2).alloc (Nat.le_refl _) _
      have fZ : Full Z X2.heap.size 9 [.string tx] := by rw [← hZ]; exact Full.new X2 _ _
      obtain ⟨G, cap, w9, r9, HD⟩ := HApp.out Z X2.heap.size 1 1 [tx.data.toList] bZ (by rw [List.map_cons, List.map_nil, sV_at (x := tx) rfl]; exact fZ.range) rfl (by omega) HWr.out
      clear HB hWr hc f1 n2 b1 hT hTX hT2 hwd hwdA htn hl hn hkl hbad f2 h6 b2 bZ fZ HApp
      go_enter Tryz.func30, Tryz.ntmps30
      go_wp2_with (first
        | (at_builtin; refine wpList_apr (by rfl) _ _ 36 (by rfl) (by exact r9) ?_)
        | go_in)
      go_ret
      exact HD.out
    have HWr : Hid (wrS c = [wd.data.toList]) := by
      show wrS c = _
      rw [hWr, if_neg (by omega), if_neg (by omega), if_neg h6]
    have q2 := (HB 2).2 (by omega)
    have q3 := (HB 3).2 (by omega)
    have q4 := (HB 4).2 (by omega)
    have q5 := (HB 5).2 (by omega)
    have q6 := (HB 6).2 (by omega)
    have HD : Hid (WrP w c (.returned (.slice (some ⟨w.heap.size + 1, 0, none⟩) 1 1)) X2) := by
      refine WrP.own ?_ (by rw [HWr.out]; rfl) b2
      rw [HWr.out, List.map_cons, List.map_nil, sV_at (x := wd) rfl]
      exact own_full (base := w.heap.size) f2 (by omega) (by simp)
    clear HB hWr hc f1 n2 b1 hT hTX hT2 hwd hwdA htn hl hn hkl hbad f2 h2 h3 h4 h5 h6 b2 HApp
    go_enter Tryz.func30, Tryz.ntmps30
    go_wp2
    go_ret
    exact HD.out
end Go.Proofs.YtichbejmelkjeaaGreatDoor

namespace Go.Proofs.YtichbejmelkjeaaGreatDoor
open Go.RowKit

def eq8 (k0 p0 l0 : Int) (n0 d0 : ByteArray) (o0 : Bool) (m0 : Int) (t0 : ByteArray) (k1 p1 l1 : Int) (n1 d1 : ByteArray) (o1 : Bool) (m1 : Int) (t1 : ByteArray) : Bool := ((((((((k0 == k1) && (p0 == p1)) && (l0 == l1)) && (n0.toList == n1.toList)) && (d0.toList == d1.toList)) && (o0 == o1)) && (m0 == m1)) && (t0.toList == t1.toList))
set_option maxRecDepth 100000 in
set_option maxHeartbeats 2000000 in
theorem neq8 (k0 p0 l0 : Int) (n0 d0 : ByteArray) (o0 : Bool) (m0 : Int) (t0 : ByteArray) (k1 p1 l1 : Int) (n1 d1 : ByteArray) (o1 : Bool) (m1 : Int) (t1 : ByteArray) : ∀ w : World,
    (binOp BinOp.neq 51 (.agg #[.int .i64 k0, .int .i64 p0, .int .i64 l0, .string n0, .string d0, .bool o0, .int .i64 m0, .string t0]) (.agg #[.int .i64 k1, .int .i64 p1, .int .i64 l1, .string n1, .string d1, .bool o1, .int .i64 m1, .string t1])).run Tryz.prog w = .ok (.bool (!eq8 k0 p0 l0 n0 d0 o0 m0 t0 k1 p1 l1 n1 d1 o1 m1 t1)) w := by
  intro w
  unfold eq8
  cases h0 : (k0 == k1) with
  | false => simp [go_sem, h0]
  | true =>
    cases h1 : (p0 == p1) with
    | false => simp [go_sem, h0, h1]
    | true =>
      cases h2 : (l0 == l1) with
      | false => simp [go_sem, h0, h1, h2]
      | true =>
        cases h3 : (n0.toList == n1.toList) with
        | false => simp [go_sem, h0, h1, h2, h3]
        | true =>
          cases h4 : (d0.toList == d1.toList) with
          | false => simp [go_sem, h0, h1, h2, h3, h4]
          | true =>
            cases h5 : (o0 == o1) with
            | false => simp [go_sem, h0, h1, h2, h3, h4, h5]
            | true =>
              cases h6 : (m0 == m1) with
              | false => simp [go_sem, h0, h1, h2, h3, h4, h5, h6]
              | true =>
                cases h7 : (t0.toList == t1.toList) with
                | false => simp [go_sem, h0, h1, h2, h3, h4, h5, h6, h7]
                | true =>
                  simp [go_sem, h0, h1, h2, h3, h4, h5, h6, h7]
theorem eq8_iff (k0 p0 l0 : Int) (n0 d0 : ByteArray) (o0 : Bool) (m0 : Int) (t0 : ByteArray) (k1 p1 l1 : Int) (n1 d1 : ByteArray) (o1 : Bool) (m1 : Int) (t1 : ByteArray) : eq8 k0 p0 l0 n0 d0 o0 m0 t0 k1 p1 l1 n1 d1 o1 m1 t1 = true ↔ (⟨k0, p0, l0, n0.data.toList, d0.data.toList, o0, m0, t0.data.toList⟩ : Cm) = ⟨k1, p1, l1, n1.data.toList, d1.data.toList, o1, m1, t1.data.toList⟩ := by
  unfold eq8
  simp only [Bool.and_eq_true, beq_iff_eq, Lx.toL, Cm.mk.injEq, and_assoc]

end Go.Proofs.YtichbejmelkjeaaGreatDoor
