import Derived.Lib.ItoaLen
import Derived.Test.YtichbejmelkjeaaGreatDoorU23
namespace Go.Proofs.YtichbejmelkjeaaGreatDoor
open Go.RowKit

theorem set_cell_ne {w : World} {a b : Addr} {v : Value} (h : a.block ≠ b.block) : (w.setCell b v).cell? a = w.cell? a := World.cell?_of_block (set_heap h)
theorem itoa_any (n : Int) (w : World) (h0 : -9223372036854775808 ≤ n ∧ n ≤ 9223372036854775807) (ht : Tab10 w) :
    Calls Tryz.prog 17 #[.int .i64 n] w fun e w' => ∃ s : ByteArray, e = .returned (.string s) ∧ s.data.toList = Lib.itoa n ∧ Below w.heap.size w w' := by
  refine (Tryz.strconv_Itoa n h0.1 h0.2 w ht).mono ?_
  rintro e w' ⟨rfl, k, os, rfl⟩
  exact ⟨_, rfl, rfl, below_regrown w (w.drawn + k) os⟩
/-- A block that is known in full is a list of its own. -/
theorem own_full {w : World} {g base : Nat} {xs : List Value} (hf : Full w g 9 xs) (hb : base ≤ g) (hl : xs.length ≤ 1000) : w.ownsRow base 9 1 (.slice (some ⟨g, 0, none⟩) xs.length xs.length) xs.length xs := by
  refine ⟨by simp, Or.inr ⟨g, xs.length, xs.toArray, rfl, hb, hf, Nat.le_refl _, by unfold maxLen; omega, by simp, by simp⟩⟩

/-- A point's words. -/
def pwS (c : Cm) : List (List UInt8) := (if c.pk = 1 then Lib.itoa c.line else c.name) :: (if c.cond = [] then [] else [ifw, c.cond])
set_option maxRecDepth 100000 in
set_option maxHeartbeats 4000000 in
theorem pointWords_any (c : Cm) (nm cd : ByteArray) (hnm : nm.data.toList = c.name) (hcd : cd.data.toList = c.cond) (w : World) (hT : Tb w) (hn : -9223372036854775808 ≤ c.line ∧ c.line ≤ 9223372036854775807) :
    Calls Tryz.prog 58 #[.agg #[.int .i64 c.pk, .int .i64 c.line, .string nm, .string cd, .bool c.off]] w fun e w' => ∃ G cap, e = .returned (.slice (some ⟨G, 0, none⟩) (pwS c).length cap) ∧ Hid (w'.ownsRow w.heap.size 9 1 (.slice (some ⟨G, 0, none⟩) (pwS c).length cap) (pwS c).length ((pwS c).map sV) ∧ Below w.heap.size w w') := by
  obtain ⟨X1, hX1⟩ : ∃ X1, w.alloc (.cells #[.int .i64 c.pk, .int .i64 c.line, .string nm, .string cd, .bool c.off] 49) = X1 := ⟨_, rfl⟩
  have b1 : Below w.heap.size w X1 := by rw [← hX1]; exact (Below.refl _ w).alloc (Nat.le_refl _) _
  have f1 : Full X1 w.heap.size 49 [.int .i64 c.pk, .int .i64 c.line, .string nm, .string cd, .bool c.off] := by rw [← hX1]; exact Full.new w _ _
  have z1 : X1.heap.size = w.heap.size + 1 := by rw [← hX1]; simp
  obtain ⟨X2, hX2⟩ : ∃ X2, X1.alloc (.cells #[.string nm] 9) = X2 := ⟨_, rfl⟩
  have n2 : Below X1.heap.size X1 X2 := by rw [← hX2]; exact (Below.refl _ X1).alloc (Nat.le_refl _) _
  have b2 : Below w.heap.size w X2 := b1.trans (n2.mono b1.size)
  have f2 : Full X2 (w.heap.size + 1) 9 [.string nm] := by rw [← hX2, ← z1]; exact Full.new X1 _ _
  have f12 := f1.next n2
  obtain ⟨⟨e0, -⟩, ⟨e1, -⟩, ⟨e2, -⟩, ⟨e3, -⟩, ⟨e4, -⟩⟩ := f1.cell5
  obtain ⟨⟨c0, -⟩, ⟨c1, -⟩, ⟨c2, -⟩, ⟨c3, -⟩, ⟨c4, -⟩⟩ := f12.cell5
  -- what is left behind the first word: F, the world W, the first word x
  have hrest : ∀ (W : World) (x : ByteArray), Full W (w.heap.size + 1) 9 [.string x] → Below w.heap.size w W → x.data.toList = (if c.pk = 1 then Lib.itoa c.line else c.name) → (c.cond = [] → Hid (W.ownsRow w.heap.size 9 1 (.slice (some ⟨w.heap.size + 1, 0, none⟩) 1 1) (pwS c).length ((pwS c).map sV) ∧ (pwS c).length = 1 ∧ Below w.heap.size w W)) ∧ (c.cond ≠ [] → ∃ G cap w9, (Builtin.append_ #[36, 36] 36 #[.slice (some ⟨w.heap.size + 1, 0, none⟩) 1 1, .slice (some ⟨W.heap.size, 0, none⟩) 2 2]).run Tryz.prog (W.alloc (.cells #[.string ⟨#[105, 102]⟩, .string cd] 9)) = .ok (.slice (some ⟨G, 0, none⟩) 3 cap) w9 ∧ Hid (w9.ownsRow w.heap.size 9 1 (.slice (some ⟨G, 0, none⟩) 3 cap) (pwS c).length ((pwS c).map sV) ∧ (pwS c).length = 3 ∧ Below w.heap.size w w9)) := by
    intro W x hF hB hx
    have hbx := hF.lt
    refine ⟨fun h0 => ?_, fun h0 => ?_⟩
    · have e : pwS c = [x.data.toList] := by unfold pwS; rw [← hx, if_pos h0]
      have := own_full (base := w.heap.size) hF (by omega) (by simp)
      rw [e]
      refine ⟨?_, rfl, hB⟩
      rw [List.map_cons, List.map_nil, sV_at (x := x) rfl]
      exact this
    · have e : pwS c = [x.data.toList, ifw, c.cond] := by unfold pwS; rw [← hx, if_neg h0]
      have bZ : Below W.heap.size W (W.alloc (.cells #[.string ⟨#[105, 102]⟩, .string cd] 9)) := (Below.refl _ W).alloc (Nat.le_refl _) _
      have fZ : Full (W.alloc (.cells #[.string ⟨#[105, 102]⟩, .string cd] 9)) W.heap.size 9 [.string ⟨#[105, 102]⟩, .string cd] := Full.new W _ _
      have oZ := own_full (base := w.heap.size) (hF.next bZ) (by omega) (by simp)
      obtain ⟨G, cap, w9, r9, o9, g9⟩ := app_src (P := Tryz.prog) 36 36 _ 16 Tryz.underlying36 info_S rfl (by decide) (by decide) oZ (some ⟨W.heap.size, 0, none⟩) 2 2 [.string ⟨#[105, 102]⟩, .string cd] rfl (by simp) (fun _ => ⟨_, _, rfl, fZ.range⟩) (by simp [Value.oneCell']) (by simp) (by have := hB.size; simp; omega)
      refine ⟨G, cap, w9, r9, ?_, by rw [e]; rfl, ?_⟩
      · rw [e, List.map_cons, List.map_cons, List.map_cons, List.map_nil, sV_at (x := x) rfl, sV_at hcd]
        exact o9
      · have hBZ := hB.trans (bZ.mono hB.size)
        exact hBZ.grown g9 hBZ.size (fun k e => by cases e; omega)
  have HRest : Hid _ := hrest
  have hpk : (c.pk == 1) = true ∨ (c.pk == 1) = false := by cases h : (c.pk == 1) <;> simp
  have hce : ((cd.toList == []) = true ∧ c.cond = []) ∨ ((cd.toList == []) = false ∧ c.cond ≠ []) := by
    rw [Lx.toL, hcd]
    cases c.cond with
    | nil => left; exact ⟨rfl, rfl⟩
    | cons a b => right; exact ⟨rfl, by simp⟩
  have HI : Hid (∀ W, Below w.heap.size w W → Calls Tryz.prog 17 #[.int .i64 c.line] W fun e w' => ∃ s : ByteArray, e = .returned (.string s) ∧ s.data.toList = Lib.itoa c.line ∧ Below W.heap.size W w') := fun W hW => itoa_any c.line W hn (hT.next hW).p10
  have HF2 : Hid (Full X2 (w.heap.size + 1) 9 [.string nm] ∧ Below w.heap.size w X2 ∧ ∀ W, Below X2.heap.size X2 W → Full W (w.heap.size + 1) 9 [.string nm] ∧ W.cell? ⟨w.heap.size, 3, none⟩ = some (.string cd) ∧ Below w.heap.size w W) := ⟨f2, b2, fun W h => ⟨f2.next h, ((f12.next h).cell 3 _ rfl).1, b2.trans (h.mono b2.size)⟩⟩
  clear hrest f1 f12 f2 b1 n2 hT hcd
  rcases hpk with hp | hp
  · have hp1 : Hid (c.pk = 1) := by show c.pk = 1; simpa using hp
    have HItoa := HI.out X2 b2
    clear HI b2
    rcases hce with ⟨hc0, hc1⟩ | ⟨hc0, hc1⟩
    · go_enter Tryz.func58, Tryz.ntmps58
      go_wp2_with fail
      refine HItoa.mono ?_
      rintro e w3 ⟨s, rfl, hs, hb3⟩
      clear HItoa
      obtain ⟨f3, cc, b3⟩ := HF2.out.2.2 w3 hb3
      obtain ⟨t0, t1⟩ := f3.cell 0 _ rfl
      have f4 : Full (w3.setCell ⟨w.heap.size + 1, 0, none⟩ (.string s)) (w.heap.size + 1) 9 [.string s] := Full.put1 (a := []) f3 _
      have b4 : Below w.heap.size w (w3.setCell ⟨w.heap.size + 1, 0, none⟩ (.string s)) := b3.setCell (p := ⟨w.heap.size + 1, 0, none⟩) (by show _ ≤ w.heap.size + 1; omega) _
      have cc4 : (w3.setCell ⟨w.heap.size + 1, 0, none⟩ (.string s)).cell? ⟨w.heap.size, 3, none⟩ = some (.string cd) := by rw [set_cell_ne (by show w.heap.size ≠ w.heap.size + 1; omega)]; exact cc
      obtain ⟨Y, hY⟩ : ∃ Y, w3.setCell ⟨w.heap.size + 1, 0, none⟩ (.string s) = Y := ⟨_, rfl⟩
      rw [hY] at f4 b4 cc4
      have hR := HRest.out Y s f4 b4 (by rw [if_pos hp1.out]; exact hs)
      have HD : Hid _ := hR.1 hc1
      clear hR HRest HF2 hn f3 b3 f4 b4 hb3
      go_wp2
      go_ret
      refine ⟨w.heap.size + 1, 1, ?_, ?_⟩
      · rw [HD.out.2.1]
        exact rfl
      · obtain ⟨o1, o2, o3⟩ := HD.out
        show _ ∧ _
        rw [o2] at o1 ⊢
        exact ⟨o1, o3⟩
    · go_enter Tryz.func58, Tryz.ntmps58
      go_wp2_with fail
      refine HItoa.mono ?_
      rintro e w3 ⟨s, rfl, hs, hb3⟩
      clear HItoa
      obtain ⟨f3, cc, b3⟩ := HF2.out.2.2 w3 hb3
      obtain ⟨t0, t1⟩ := f3.cell 0 _ rfl
      have f4 : Full (w3.setCell ⟨w.heap.size + 1, 0, none⟩ (.string s)) (w.heap.size + 1) 9 [.string s] := Full.put1 (a := []) f3 _
      have b4 : Below w.heap.size w (w3.setCell ⟨w.heap.size + 1, 0, none⟩ (.string s)) := b3.setCell (p := ⟨w.heap.size + 1, 0, none⟩) (by show _ ≤ w.heap.size + 1; omega) _
      have cc4 : (w3.setCell ⟨w.heap.size + 1, 0, none⟩ (.string s)).cell? ⟨w.heap.size, 3, none⟩ = some (.string cd) := by rw [set_cell_ne (by show w.heap.size ≠ w.heap.size + 1; omega)]; exact cc
      obtain ⟨Y, hY⟩ : ∃ Y, w3.setCell ⟨w.heap.size + 1, 0, none⟩ (.string s) = Y := ⟨_, rfl⟩
      rw [hY] at f4 b4 cc4
      have hR := HRest.out Y s f4 b4 (by rw [if_pos hp1.out]; exact hs)
      obtain ⟨G, cap, w9, r9, HD⟩ := hR.2 hc1
      clear hR HRest HF2 hn f3 b3 f4 b4 hb3
      go_wp2_with (first
        | (at_builtin; refine wpList_apr (by rfl) _ _ 36 (by rfl) (by exact r9) ?_)
        | go_in)
      go_ret
      refine ⟨G, cap, ?_, ?_⟩
      · rw [HD.out.2.1]
        exact rfl
      · obtain ⟨o1, o2, o3⟩ := HD.out
        show _ ∧ _
        rw [o2] at o1 ⊢
        exact ⟨o1, o3⟩
  · have hp1 : Hid (¬ c.pk = 1) := by show ¬ c.pk = 1; simpa using hp
    rcases hce with ⟨hc0, hc1⟩ | ⟨hc0, hc1⟩
    · have hR := HRest.out X2 nm HF2.out.1 HF2.out.2.1 (by rw [if_neg hp1.out]; exact hnm)
      have HD : Hid _ := hR.1 hc1
      clear hR HRest HF2 hn b2 HI
      go_enter Tryz.func58, Tryz.ntmps58
      go_wp2
      go_ret
      refine ⟨w.heap.size + 1, 1, ?_, ?_⟩
      · rw [HD.out.2.1]
        exact rfl
      · obtain ⟨o1, o2, o3⟩ := HD.out
        show _ ∧ _
        rw [o2] at o1 ⊢
        exact ⟨o1, o3⟩
    · have hR := HRest.out X2 nm HF2.out.1 HF2.out.2.1 (by rw [if_neg hp1.out]; exact hnm)
      obtain ⟨G, cap, w9, r9, HD⟩ := hR.2 hc1
      clear hR HRest HF2 hn b2 HI
      go_enter Tryz.func58, Tryz.ntmps58
      go_wp2_with (first
        | (at_builtin; refine wpList_apr (by rfl) _ _ 36 (by rfl) (by exact r9) ?_)
        | go_in)
      go_ret
      refine ⟨G, cap, ?_, ?_⟩
      · rw [HD.out.2.1]
        exact rfl
      · obtain ⟨o1, o2, o3⟩ := HD.out
        show _ ∧ _
        rw [o2] at o1 ⊢
        exact ⟨o1, o3⟩
end Go.Proofs.YtichbejmelkjeaaGreatDoor

namespace Go.Proofs.YtichbejmelkjeaaGreatDoor
open Go.RowKit

def trs : List (List UInt8) := [[63], [100, 105, 118, 105, 100, 101], [105, 110, 100, 101, 120], [100, 101, 112, 116, 104], [104, 101, 97, 112], [105, 110, 112, 117, 116], [108, 111, 110, 103], [115, 116, 117, 99, 107]]
def evs : List (List UInt8) := [[63], [115, 116, 109, 116], [101, 110, 116, 101, 114], [101, 120, 105, 116], [99, 97, 108, 108], [108, 101, 97, 118, 101], [114, 101, 116, 117, 114, 110], [115, 101, 116], [116, 111, 117, 99, 104]]
/-- The tables of words: those of the program and those of the document. -/
structure TW (w : World) : Prop where
  tr : ∀ k, 1 ≤ k → k < 8 → w.cell? ⟨5, k, none⟩ = some (.string ⟨(trs.getD k []).toArray⟩)
  ev : ∀ k, 1 ≤ k → k < 9 → w.cell? ⟨0, k, none⟩ = some (.string ⟨(evs.getD k []).toArray⟩)
  rt : ∀ k, 1 ≤ k → k < 8 → w.cell? ⟨2, k, none⟩ = some (.string ⟨(trs.getD k []).toArray⟩)
  re : ∀ k, 1 ≤ k → k < 9 → w.cell? ⟨1, k, none⟩ = some (.string ⟨(evs.getD k []).toArray⟩)
  p10 : Tab10 w
theorem TW.next {w w' : World} (h : TW w) (hb : Below w.heap.size w w') : TW w' := by
  have hk : ∀ (g k : Nat) (v : Value), w.cell? ⟨g, k, none⟩ = some v → w'.cell? ⟨g, k, none⟩ = some v := fun g k v q => (hb.cell (p := ⟨g, k, none⟩) (World.block_lt_of_cell? w _ q)).trans q
  exact ⟨fun k a b => hk _ _ _ (h.tr k a b), fun k a b => hk _ _ _ (h.ev k a b), fun k a b => hk _ _ _ (h.rt k a b), fun k a b => hk _ _ _ (h.re k a b), h.p10.next hb⟩
/-- A trap's word. -/
def trW (t : Int) : List UInt8 := if t < 1 ∨ 7 < t then [63] else trs.getD t.toNat []
theorem trs_len : ∀ k, k < 8 → (trs.getD k []).length ≤ 6 := by decide
theorem trW_len (t : Int) : (trW t).length ≤ 6 := by
  unfold trW
  split
  · decide
  · exact trs_len _ (by omega)
set_option maxRecDepth 100000 in
set_option maxHeartbeats 1000000 in
theorem trapWord_any (t : Int) (w : World) (hT : TW w) : Calls Tryz.prog 64 #[.int .i64 t] w fun e w' => ∃ s : ByteArray, e = .returned (.string s) ∧ s.data.toList = trW t ∧ Below w.heap.size w w' := by
  have HT : Hid (TW w) := hT
  clear hT
  by_cases h1 : t < 1
  · have HR : Hid (trW t = [63]) := by show trW t = _; unfold trW; rw [if_pos (.inl h1)]
    go_enter Tryz.func64, Tryz.ntmps64
    go_wp2
    go_ret
    exact ⟨_, rfl, by rw [HR.out], Below.refl _ _⟩
  · by_cases h7 : 7 < t
    · have HR : Hid (trW t = [63]) := by show trW t = _; unfold trW; rw [if_pos (.inr h7)]
      go_enter Tryz.func64, Tryz.ntmps64
      go_wp2
      go_ret
      exact ⟨_, rfl, by rw [HR.out], Below.refl _ _⟩
    · obtain ⟨k, rfl⟩ : ∃ k : Nat, t = (k : Int) := ⟨t.toNat, by omega⟩
      have hi := HT.out.tr k (by omega) (by omega)
      have HR : Hid (trW (k : Int) = trs.getD k []) := by show trW k = _; unfold trW; rw [if_neg (by omega), Int.toNat_natCast]
      obtain ⟨x, hx⟩ : ∃ x : ByteArray, x = ⟨(trs.getD k []).toArray⟩ := ⟨_, rfl⟩
      have HX : Hid (x.data.toList = trs.getD k []) := by show x.data.toList = _; rw [hx]
      rw [← hx] at hi
      have hk0 : (0 : Int) ≤ (k : Int) := by omega
      have hk8 : (k : Int) < 8 := by omega
      clear hx
      go_enter Tryz.func64, Tryz.ntmps64
      go_wp2
      go_ret
      exact ⟨_, rfl, by rw [HX.out, HR.out], Below.refl _ _⟩
end Go.Proofs.YtichbejmelkjeaaGreatDoor

namespace Go.Proofs.YtichbejmelkjeaaGreatDoor
open Go.RowKit

/-- How a run stands at its end. -/
def edS (ph t : Int) : List UInt8 := if ph = 1 then [101, 110, 100, 101, 100] else if ph = 2 then [116, 114, 97, 112, 32] ++ trW t else [114, 117, 110, 110, 105, 110, 103]
theorem edS_len (ph t : Int) : (edS ph t).length ≤ 11 := by
  have := trW_len t
  unfold edS
  split
  · decide
  · split
    · rw [List.length_append]; simp; omega
    · decide
theorem cat_ok (a b : ByteArray) (h : a.size + b.size ≤ 1000000000000) : a.size + b.size ≤ 9223372036854775807 := by omega
theorem cat_list (a b : ByteArray) : (a ++ b).data.toList = a.data.toList ++ b.data.toList := by rw [ByteArray.data_append]; simp
set_option maxRecDepth 100000 in
set_option maxHeartbeats 1000000 in
theorem ending_any (ph t : Int) (w : World) (hT : TW w) : Calls Tryz.prog 41 #[.agg #[.int .i64 ph, .int .i64 t]] w fun e w' => ∃ s : ByteArray, e = .returned (.string s) ∧ s.data.toList = edS ph t ∧ Below w.heap.size w w' := by
  by_cases h1 : ph = 1
  · subst h1
    clear hT
    have HB : Hid (Below w.heap.size w (w.alloc (.cells #[.int .i64 1, .int .i64 t] 34))) := (Below.refl _ w).alloc (Nat.le_refl _) _
    have HR : Hid (edS 1 t = [101, 110, 100, 101, 100]) := by show edS 1 t = _; unfold edS; rw [if_pos rfl]
    go_enter Tryz.func41, Tryz.ntmps41
    go_wp2
    go_ret
    exact ⟨_, rfl, by rw [HR.out], HB.out⟩
  · by_cases h2 : ph = 2
    · subst h2
      have B1 : Below w.heap.size w (w.alloc (.cells #[.int .i64 2, .int .i64 t] 34)) := (Below.refl _ w).alloc (Nat.le_refl _) _
      have HB : Hid (Below w.heap.size w (w.alloc (.cells #[.int .i64 2, .int .i64 t] 34))) := B1
      have C := trapWord_any t _ (hT.next B1)
      have HL : Hid ((trW t).length ≤ 6) := trW_len t
      have HR : Hid (edS 2 t = [116, 114, 97, 112, 32] ++ trW t) := by show edS 2 t = _; unfold edS; rw [if_neg (by omega), if_pos rfl]
      clear hT B1 h1
      go_enter Tryz.func41, Tryz.ntmps41
      go_wp2_with fail
      refine C.mono ?_
      rintro e w2 ⟨s, rfl, hs, hb⟩
      have hz : (⟨#[116, 114, 97, 112, 32]⟩ : ByteArray).size + s.size ≤ 9223372036854775807 := by have := HL.out; rw [← hs, ← Lib.size_eq] at this; show 5 + s.size ≤ _; omega
      have HS : Hid (s.data.toList = trW t) := hs
      have HBb : Hid (Below w.heap.size w w2) := HB.out.trans (hb.mono HB.out.size)
      clear hb hs HB
      go_wp2
      go_ret
      exact ⟨_, rfl, by rw [cat_list, HS.out, HR.out], HBb.out⟩
    · clear hT
      have HB : Hid (Below w.heap.size w (w.alloc (.cells #[.int .i64 ph, .int .i64 t] 34))) := (Below.refl _ w).alloc (Nat.le_refl _) _
      have HR : Hid (edS ph t = [114, 117, 110, 110, 105, 110, 103]) := by show edS ph t = _; unfold edS; rw [if_neg h1, if_neg h2]
      go_enter Tryz.func41, Tryz.ntmps41
      go_wp2
      go_ret
      exact ⟨_, rfl, by rw [HR.out], HB.out⟩
set_option maxRecDepth 100000 in
set_option maxHeartbeats 1000000 in
theorem over_any (ph t : Int) (w : World) (hT : TW w) : Calls Tryz.prog 21 #[.agg #[.int .i64 ph, .int .i64 t]] w fun e w' => ∃ s : ByteArray, e = .returned (.string s) ∧ s.data.toList = [58, 32] ++ edS ph t ∧ Below w.heap.size w w' := by
  by_cases h1 : ph = 1
  · subst h1
    clear hT
    have HB : Hid (Below w.heap.size w (w.alloc (.cells #[.int .i64 1, .int .i64 t] 34))) := (Below.refl _ w).alloc (Nat.le_refl _) _
    have HR : Hid (edS 1 t = [101, 110, 100, 101, 100]) := by show edS 1 t = _; unfold edS; rw [if_pos rfl]
    go_enter Tryz.func21, Tryz.ntmps21
    go_wp2
    go_ret
    exact ⟨_, rfl, by rw [HR.out], HB.out⟩
  · by_cases h2 : ph = 2
    · subst h2
      have B1 : Below w.heap.size w (w.alloc (.cells #[.int .i64 2, .int .i64 t] 34)) := (Below.refl _ w).alloc (Nat.le_refl _) _
      have HB : Hid (Below w.heap.size w (w.alloc (.cells #[.int .i64 2, .int .i64 t] 34))) := B1
      have HR : Hid (edS 2 t = [116, 114, 97, 112, 32] ++ trW t) := by show edS 2 t = _; unfold edS; rw [if_neg (by omega), if_pos rfl]
      by_cases q1 : t < 1
      · have HQ : Hid (trW t = [63]) := by show trW t = _; unfold trW; rw [if_pos (.inl q1)]
        clear hT B1 h1
        go_enter Tryz.func21, Tryz.ntmps21
        go_wp2
        go_ret
        exact ⟨_, rfl, by rw [HR.out, HQ.out]; rfl, HB.out⟩
      · by_cases q7 : 7 < t
        · have HQ : Hid (trW t = [63]) := by show trW t = _; unfold trW; rw [if_pos (.inr q7)]
          clear hT B1 h1
          go_enter Tryz.func21, Tryz.ntmps21
          go_wp2
          go_ret
          exact ⟨_, rfl, by rw [HR.out, HQ.out]; rfl, HB.out⟩
        · obtain ⟨k, rfl⟩ : ∃ k : Nat, t = (k : Int) := ⟨t.toNat, by omega⟩
          have hi := (hT.next B1).rt k (by omega) (by omega)
          have HQ : Hid (trW (k : Int) = trs.getD k []) := by show trW k = _; unfold trW; rw [if_neg (by omega), Int.toNat_natCast]
          obtain ⟨x, hx⟩ : ∃ x : ByteArray, x = ⟨(trs.getD k []).toArray⟩ := ⟨_, rfl⟩
          have HX : Hid (x.data.toList = trs.getD k []) := by show x.data.toList = _; rw [hx]
          rw [← hx] at hi
          have hk0 : (0 : Int) ≤ (k : Int) := by omega
          have hk8 : (k : Int) < 8 := by omega
          have hz : (⟨#[58, 32, 116, 114, 97, 112, 32]⟩ : ByteArray).size + x.size ≤ 9223372036854775807 := by
            have := trs_len k (by omega)
            rw [Lib.size_eq x, HX.out]; show 7 + _ ≤ _; omega
          clear hx hT B1 h1
          go_enter Tryz.func21, Tryz.ntmps21
          go_wp2
          go_ret
          exact ⟨_, rfl, by rw [cat_list, HX.out, HR.out, HQ.out]; rfl, HB.out⟩
    · clear hT
      have HB : Hid (Below w.heap.size w (w.alloc (.cells #[.int .i64 ph, .int .i64 t] 34))) := (Below.refl _ w).alloc (Nat.le_refl _) _
      have HR : Hid (edS ph t = [114, 117, 110, 110, 105, 110, 103]) := by show edS ph t = _; unfold edS; rw [if_neg h1, if_neg h2]
      go_enter Tryz.func21, Tryz.ntmps21
      go_wp2
      go_ret
      exact ⟨_, rfl, by rw [HR.out], HB.out⟩
end Go.Proofs.YtichbejmelkjeaaGreatDoor

namespace Go.Proofs.YtichbejmelkjeaaGreatDoor
open Go.RowKit

/-- Why a run stands. -/
def rsnS (k p ph t : Int) : List UInt8 := if k = 1 then [115, 116, 101, 112] else if k = 2 then [112, 111, 105, 110, 116, 32] ++ Lib.itoa p else if k = 3 then edS ph t else if k = 4 then [115, 116, 97, 114, 116] else if k = 5 then [98, 117, 100, 103, 101, 116] else if k = 6 then [103, 111, 116, 111] else [63]
theorem rsnS_len (k p ph t : Int) (hp : -9223372036854775808 ≤ p ∧ p ≤ 9223372036854775807) : (rsnS k p ph t).length ≤ 60 := by
  have h1 := edS_len ph t
  have h2 := Lib.itoa_length_le p hp.1 hp.2
  unfold rsnS
  split
  · decide
  · split
    · rw [List.length_append]; simp; omega
    · split
      · omega
      · split
        · decide
        · split
          · decide
          · split <;> decide
set_option maxRecDepth 100000 in
set_option maxHeartbeats 1000000 in
theorem reason_any (k at_ p ph t : Int) (w : World) (hT : TW w) (hp : -9223372036854775808 ≤ p ∧ p ≤ 9223372036854775807) : Calls Tryz.prog 20 #[.agg #[.int .i64 k, .int .i64 at_, .int .i64 p], .agg #[.int .i64 ph, .int .i64 t]] w fun e w' => ∃ s : ByteArray, e = .returned (.string s) ∧ s.data.toList = rsnS k p ph t ∧ Below w.heap.size w w' := by
  by_cases h1 : k = 1
  · subst h1
    have B1 : Below w.heap.size w ((w.alloc (.cells #[.int .i64 1, .int .i64 at_, .int .i64 p] 30)).alloc (.cells #[.int .i64 ph, .int .i64 t] 34)) := ((Below.refl _ w).alloc (Nat.le_refl _) _).alloc (by simp) _
    have HB : Hid (Below w.heap.size w ((w.alloc (.cells #[.int .i64 1, .int .i64 at_, .int .i64 p] 30)).alloc (.cells #[.int .i64 ph, .int .i64 t] 34))) := B1
    have HR : Hid (rsnS 1 p ph t = [115, 116, 101, 112]) := by show rsnS 1 p ph t = _; unfold rsnS; rw [if_pos rfl]
    clear hT hp B1
    go_enter Tryz.func20, Tryz.ntmps20
    go_wp2
    go_ret
    exact ⟨_, rfl, by rw [HR.out], HB.out⟩
  by_cases h2 : k = 2
  · subst h2
    have B1 : Below w.heap.size w ((w.alloc (.cells #[.int .i64 2, .int .i64 at_, .int .i64 p] 30)).alloc (.cells #[.int .i64 ph, .int .i64 t] 34)) := ((Below.refl _ w).alloc (Nat.le_refl _) _).alloc (by simp) _
    have HB : Hid (Below w.heap.size w ((w.alloc (.cells #[.int .i64 2, .int .i64 at_, .int .i64 p] 30)).alloc (.cells #[.int .i64 ph, .int .i64 t] 34))) := B1
    have HR : Hid (rsnS 2 p ph t = [112, 111, 105, 110, 116, 32] ++ Lib.itoa p) := by show rsnS 2 p ph t = _; unfold rsnS; rw [if_neg (by omega), if_pos rfl]
    have C := itoa_any p _ hp (hT.next B1).p10
    have hln := Lib.itoa_length_le p hp.1 hp.2
    have HL : Hid ((Lib.itoa p).length ≤ 40) := by show _ ≤ 40; omega
    clear hT hp B1 hln
    go_enter Tryz.func20, Tryz.ntmps20
    go_wp2_with fail
    refine C.mono ?_
    rintro e w2 ⟨s, rfl, hs, hb⟩
    have hz : (⟨#[112, 111, 105, 110, 116, 32]⟩ : ByteArray).size + s.size ≤ 9223372036854775807 := by have := HL.out; rw [← hs, ← Lib.size_eq] at this; show 6 + s.size ≤ _; omega
    have HS : Hid (s.data.toList = Lib.itoa p) := hs
    have HBb : Hid (Below w.heap.size w w2) := HB.out.trans (hb.mono HB.out.size)
    clear hb hs HB
    go_wp2
    go_ret
    exact ⟨_, rfl, by rw [cat_list, HS.out, HR.out], HBb.out⟩
  by_cases h3 : k = 3
  · subst h3
    have B1 : Below w.heap.size w ((w.alloc (.cells #[.int .i64 3, .int .i64 at_, .int .i64 p] 30)).alloc (.cells #[.int .i64 ph, .int .i64 t] 34)) := ((Below.refl _ w).alloc (Nat.le_refl _) _).alloc (by simp) _
    have HB : Hid (Below w.heap.size w ((w.alloc (.cells #[.int .i64 3, .int .i64 at_, .int .i64 p] 30)).alloc (.cells #[.int .i64 ph, .int .i64 t] 34))) := B1
    have HR : Hid (rsnS 3 p ph t = edS ph t) := by show rsnS 3 p ph t = _; unfold rsnS; rw [if_neg (by omega), if_neg (by omega), if_pos rfl]
    have C := ending_any ph t _ (hT.next B1)
    clear hT hp B1
    go_enter Tryz.func20, Tryz.ntmps20
    go_wp2_with fail
    refine C.mono ?_
    rintro e w2 ⟨s, rfl, hs, hb⟩
    have HS : Hid (s.data.toList = edS ph t) := hs
    have HBb : Hid (Below w.heap.size w w2) := HB.out.trans (hb.mono HB.out.size)
    clear hb hs HB
    go_wp2
    go_ret
    exact ⟨_, rfl, by rw [HS.out, HR.out], HBb.out⟩
  by_cases h4 : k = 4
  · subst h4
    have B1 : Below w.heap.size w ((w.alloc (.cells #[.int .i64 4, .int .i64 at_, .int .i64 p] 30)).alloc (.cells #[.int .i64 ph, .int .i64 t] 34)) := ((Below.refl _ w).alloc (Nat.le_refl _) _).alloc (by simp) _
    have HB : Hid (Below w.heap.size w ((w.alloc (.cells #[.int .i64 4, .int .i64 at_, .int .i64 p] 30)).alloc (.cells #[.int .i64 ph, .int .i64 t] 34))) := B1
    have HR : Hid (rsnS 4 p ph t = [115, 116, 97, 114, 116]) := by show rsnS 4 p ph t = _; unfold rsnS; rw [if_neg (by omega), if_neg (by omega), if_neg (by omega), if_pos rfl]
    clear hT hp B1
    go_enter Tryz.func20, Tryz.ntmps20
    go_wp2
    go_ret
    exact ⟨_, rfl, by rw [HR.out], HB.out⟩
  by_cases h5 : k = 5
  · subst h5
    have B1 : Below w.heap.size w ((w.alloc (.cells #[.int .i64 5, .int .i64 at_, .int .i64 p] 30)).alloc (.cells #[.int .i64 ph, .int .i64 t] 34)) := ((Below.refl _ w).alloc (Nat.le_refl _) _).alloc (by simp) _
    have HB : Hid (Below w.heap.size w ((w.alloc (.cells #[.int .i64 5, .int .i64 at_, .int .i64 p] 30)).alloc (.cells #[.int .i64 ph, .int .i64 t] 34))) := B1
    have HR : Hid (rsnS 5 p ph t = [98, 117, 100, 103, 101, 116]) := by show rsnS 5 p ph t = _; unfold rsnS; rw [if_neg (by omega), if_neg (by omega), if_neg (by omega), if_neg (by omega), if_pos rfl]
    clear hT hp B1
    go_enter Tryz.func20, Tryz.ntmps20
    go_wp2
    go_ret
    exact ⟨_, rfl, by rw [HR.out], HB.out⟩
  by_cases h6 : k = 6
  · subst h6
    have B1 : Below w.heap.size w ((w.alloc (.cells #[.int .i64 6, .int .i64 at_, .int .i64 p] 30)).alloc (.cells #[.int .i64 ph, .int .i64 t] 34)) := ((Below.refl _ w).alloc (Nat.le_refl _) _).alloc (by simp) _
    have HB : Hid (Below w.heap.size w ((w.alloc (.cells #[.int .i64 6, .int .i64 at_, .int .i64 p] 30)).alloc (.cells #[.int .i64 ph, .int .i64 t] 34))) := B1
    have HR : Hid (rsnS 6 p ph t = [103, 111, 116, 111]) := by show rsnS 6 p ph t = _; unfold rsnS; rw [if_neg (by omega), if_neg (by omega), if_neg (by omega), if_neg (by omega), if_neg (by omega), if_pos rfl]
    clear hT hp B1
    go_enter Tryz.func20, Tryz.ntmps20
    go_wp2
    go_ret
    exact ⟨_, rfl, by rw [HR.out], HB.out⟩
  have B1 : Below w.heap.size w ((w.alloc (.cells #[.int .i64 k, .int .i64 at_, .int .i64 p] 30)).alloc (.cells #[.int .i64 ph, .int .i64 t] 34)) := ((Below.refl _ w).alloc (Nat.le_refl _) _).alloc (by simp) _
  have HB : Hid (Below w.heap.size w ((w.alloc (.cells #[.int .i64 k, .int .i64 at_, .int .i64 p] 30)).alloc (.cells #[.int .i64 ph, .int .i64 t] 34))) := B1
  have HR : Hid (rsnS k p ph t = [63]) := by show rsnS k p ph t = _; unfold rsnS; rw [if_neg h1, if_neg h2, if_neg h3, if_neg h4, if_neg h5, if_neg h6]
  clear hT hp B1
  go_enter Tryz.func20, Tryz.ntmps20
  go_wp2
  go_ret
  exact ⟨_, rfl, by rw [HR.out], HB.out⟩
end Go.Proofs.YtichbejmelkjeaaGreatDoor

namespace Go.Proofs.YtichbejmelkjeaaGreatDoor
open Go.RowKit

/-- A stop's line. -/
def stpS (k at_ p ph t : Int) : List UInt8 := if k = 0 then [97, 116, 32] ++ Lib.itoa at_ else ([97, 116, 32] ++ Lib.itoa at_) ++ [58, 32] ++ rsnS k p ph t
set_option maxRecDepth 100000 in
set_option maxHeartbeats 1000000 in
theorem stop_any (k at_ p ph t : Int) (w : World) (hT : TW w) (ha : -9223372036854775808 ≤ at_ ∧ at_ ≤ 9223372036854775807) (hp : -9223372036854775808 ≤ p ∧ p ≤ 9223372036854775807) : Calls Tryz.prog 8 #[.agg #[.int .i64 k, .int .i64 at_, .int .i64 p], .agg #[.int .i64 ph, .int .i64 t]] w fun e w' => ∃ s : ByteArray, e = .returned (.string s) ∧ s.data.toList = stpS k at_ p ph t ∧ Below w.heap.size w w' := by
  by_cases h0 : k = 0
  · subst h0
    have B1 : Below w.heap.size w ((w.alloc (.cells #[.int .i64 0, .int .i64 at_, .int .i64 p] 30)).alloc (.cells #[.int .i64 ph, .int .i64 t] 34)) := ((Below.refl _ w).alloc (Nat.le_refl _) _).alloc (by simp) _
    have HB : Hid (Below w.heap.size w ((w.alloc (.cells #[.int .i64 0, .int .i64 at_, .int .i64 p] 30)).alloc (.cells #[.int .i64 ph, .int .i64 t] 34))) := B1
    have HR : Hid (stpS 0 at_ p ph t = [97, 116, 32] ++ Lib.itoa at_) := by show stpS 0 at_ p ph t = _; unfold stpS; rw [if_pos rfl]
    have C := itoa_any at_ _ ha (hT.next B1).p10
    have hln := Lib.itoa_length_le at_ ha.1 ha.2
    have HL : Hid ((Lib.itoa at_).length ≤ 40) := by show _ ≤ 40; omega
    have HT : Hid (∀ W, Below w.heap.size w W → TW W) := fun W h => hT.next h
    clear hT ha hp B1 hln
    go_enter Tryz.func8, Tryz.ntmps8
    go_wp2_with fail
    refine C.mono ?_
    rintro e w2 ⟨s, rfl, hs, hb⟩
    clear C
    have hsz : s.size ≤ 40 := by have := HL.out; rw [← hs, ← Lib.size_eq] at this; exact this
    have hz : (⟨#[97, 116, 32]⟩ : ByteArray).size + s.size ≤ 9223372036854775807 := by show 3 + s.size ≤ _; omega
    have HS : Hid (s.data.toList = Lib.itoa at_) := hs
    have F1 : Full (w.alloc (.cells #[.int .i64 0, .int .i64 at_, .int .i64 p] 30)) w.heap.size 30 [.int .i64 0, .int .i64 at_, .int .i64 p] := Full.new w _ _
    have F2 : Full ((w.alloc (.cells #[.int .i64 0, .int .i64 at_, .int .i64 p] 30)).alloc (.cells #[.int .i64 ph, .int .i64 t] 34)) (w.alloc (.cells #[.int .i64 0, .int .i64 at_, .int .i64 p] 30)).heap.size 34 [.int .i64 ph, .int .i64 t] := Full.new _ _ _
    rw [show (w.alloc (.cells #[.int .i64 0, .int .i64 at_, .int .i64 p] 30)).heap.size = w.heap.size + 1 by simp] at F2
    have F1 := F1.next (((Below.refl _ _).alloc (Nat.le_refl _) _ : Below _ _ ((w.alloc (.cells #[.int .i64 0, .int .i64 at_, .int .i64 p] 30)).alloc (.cells #[.int .i64 ph, .int .i64 t] 34))))
    have F1 := F1.next hb
    have F2 := F2.next hb
    have e0 := (F1.cell 0 _ rfl).1
    have e1 := (F1.cell 1 _ rfl).1
    have e2 := (F1.cell 2 _ rfl).1
    have d0 := (F2.cell 0 _ rfl).1
    have d1 := (F2.cell 1 _ rfl).1
    have HBb : Hid (Below w.heap.size w w2) := HB.out.trans (hb.mono HB.out.size)
    clear hb hs HB HT hsz F1 F2
    go_wp2
    go_ret
    exact ⟨_, rfl, by rw [cat_list, HS.out, HR.out], HBb.out⟩
  have B1 : Below w.heap.size w ((w.alloc (.cells #[.int .i64 k, .int .i64 at_, .int .i64 p] 30)).alloc (.cells #[.int .i64 ph, .int .i64 t] 34)) := ((Below.refl _ w).alloc (Nat.le_refl _) _).alloc (by simp) _
  have HB : Hid (Below w.heap.size w ((w.alloc (.cells #[.int .i64 k, .int .i64 at_, .int .i64 p] 30)).alloc (.cells #[.int .i64 ph, .int .i64 t] 34))) := B1
  have HR : Hid (stpS k at_ p ph t = ([97, 116, 32] ++ Lib.itoa at_) ++ [58, 32] ++ rsnS k p ph t) := by show stpS k at_ p ph t = _; unfold stpS; rw [if_neg h0]
  have C := itoa_any at_ _ ha (hT.next B1).p10
  have hln := Lib.itoa_length_le at_ ha.1 ha.2
  have HL : Hid ((Lib.itoa at_).length ≤ 40) := by show _ ≤ 40; omega
  have HT : Hid (∀ W, Below w.heap.size w W → TW W) := fun W h => hT.next h
  have HRs : Hid (∀ W, Below w.heap.size w W → Calls Tryz.prog 20 #[.agg #[.int .i64 k, .int .i64 at_, .int .i64 p], .agg #[.int .i64 ph, .int .i64 t]] W fun e w' => ∃ s : ByteArray, e = .returned (.string s) ∧ s.data.toList = rsnS k p ph t ∧ Below W.heap.size W w') := fun W h => reason_any k at_ p ph t W (hT.next h) hp
  have HRl : Hid ((rsnS k p ph t).length ≤ 60) := rsnS_len k p ph t hp
  clear hT ha hp B1 hln
  go_enter Tryz.func8, Tryz.ntmps8
  go_wp2_with fail
  refine C.mono ?_
  rintro e w2 ⟨s, rfl, hs, hb⟩
  clear C
  have hsz : s.size ≤ 40 := by have := HL.out; rw [← hs, ← Lib.size_eq] at this; exact this
  have hz : (⟨#[97, 116, 32]⟩ : ByteArray).size + s.size ≤ 9223372036854775807 := by show 3 + s.size ≤ _; omega
  have HS : Hid (s.data.toList = Lib.itoa at_) := hs
  have HBb : Hid (Below w.heap.size w w2) := HB.out.trans (hb.mono HB.out.size)
  have CR := HRs.out w2 HBb.out
  have F1 : Full (w.alloc (.cells #[.int .i64 k, .int .i64 at_, .int .i64 p] 30)) w.heap.size 30 [.int .i64 k, .int .i64 at_, .int .i64 p] := Full.new w _ _
  have F2 : Full ((w.alloc (.cells #[.int .i64 k, .int .i64 at_, .int .i64 p] 30)).alloc (.cells #[.int .i64 ph, .int .i64 t] 34)) (w.alloc (.cells #[.int .i64 k, .int .i64 at_, .int .i64 p] 30)).heap.size 34 [.int .i64 ph, .int .i64 t] := Full.new _ _ _
  rw [show (w.alloc (.cells #[.int .i64 k, .int .i64 at_, .int .i64 p] 30)).heap.size = w.heap.size + 1 by simp] at F2
  have F1 := F1.next (((Below.refl _ _).alloc (Nat.le_refl _) _ : Below _ _ ((w.alloc (.cells #[.int .i64 k, .int .i64 at_, .int .i64 p] 30)).alloc (.cells #[.int .i64 ph, .int .i64 t] 34))))
  have F1 := F1.next hb
  have F2 := F2.next hb
  have e0 := (F1.cell 0 _ rfl).1
  have e1 := (F1.cell 1 _ rfl).1
  have e2 := (F1.cell 2 _ rfl).1
  have d0 := (F2.cell 0 _ rfl).1
  have d1 := (F2.cell 1 _ rfl).1
  clear hs HRs HT F1 F2 hb HB
  have hz2 : ((⟨#[97, 116, 32]⟩ : ByteArray) ++ s).size + (⟨#[58, 32]⟩ : ByteArray).size ≤ 9223372036854775807 := by rw [ByteArray.size_append]; show 3 + s.size + 2 ≤ _; omega
  go_wp2_with fail
  refine CR.mono ?_
  rintro e w3 ⟨u, rfl, hu, hb⟩
  have hz3 : ((⟨#[97, 116, 32]⟩ : ByteArray) ++ s ++ (⟨#[58, 32]⟩ : ByteArray)).size + u.size ≤ 9223372036854775807 := by
    have := HRl.out
    rw [← hu, ← Lib.size_eq] at this
    rw [ByteArray.size_append, ByteArray.size_append]; show 3 + s.size + 2 + u.size ≤ _; omega
  have HU : Hid (u.data.toList = rsnS k p ph t) := hu
  have HBc : Hid (Below w.heap.size w w3) := HBb.out.trans (hb.mono HBb.out.size)
  clear hb hu HBb e0 e1 e2 d0 d1
  go_wp2
  go_ret
  exact ⟨_, rfl, by rw [cat_list, cat_list, cat_list, HS.out, HU.out, HR.out], HBc.out⟩
end Go.Proofs.YtichbejmelkjeaaGreatDoor

namespace Go.Proofs.YtichbejmelkjeaaGreatDoor
open Go.RowKit

set_option maxRecDepth 100000 in
set_option maxHeartbeats 1000000 in
theorem rstop_any (k at_ p ph t : Int) (w : World) (hT : TW w) (ha : -9223372036854775808 ≤ at_ ∧ at_ ≤ 9223372036854775807) (hp : -9223372036854775808 ≤ p ∧ p ≤ 9223372036854775807) : Calls Tryz.prog 9 #[.agg #[.int .i64 k, .int .i64 at_, .int .i64 p], .agg #[.int .i64 ph, .int .i64 t]] w fun e w' => ∃ s : ByteArray, e = .returned (.string s) ∧ s.data.toList = stpS k at_ p ph t ∧ Below w.heap.size w w' := by
  by_cases h0 : k = 0
  · subst h0
    have B1 : Below w.heap.size w ((w.alloc (.cells #[.int .i64 0, .int .i64 at_, .int .i64 p] 30)).alloc (.cells #[.int .i64 ph, .int .i64 t] 34)) := ((Below.refl _ w).alloc (Nat.le_refl _) _).alloc (by simp) _
    have HB : Hid (Below w.heap.size w ((w.alloc (.cells #[.int .i64 0, .int .i64 at_, .int .i64 p] 30)).alloc (.cells #[.int .i64 ph, .int .i64 t] 34))) := B1
    have HR : Hid (stpS 0 at_ p ph t = [97, 116, 32] ++ Lib.itoa at_) := by show stpS 0 at_ p ph t = _; unfold stpS; rw [if_pos rfl]
    have C := itoa_any at_ _ ha (hT.next B1).p10
    have hln := Lib.itoa_length_le at_ ha.1 ha.2
    have HL : Hid ((Lib.itoa at_).length ≤ 40) := by show _ ≤ 40; omega
    have HT : Hid (∀ W, Below w.heap.size w W → TW W) := fun W h => hT.next h
    have HP : Hid (-9223372036854775808 ≤ p ∧ p ≤ 9223372036854775807) := hp
    clear hT ha hp B1 hln
    go_enter Tryz.func9, Tryz.ntmps9
    go_wp2_with fail
    refine C.mono ?_
    rintro e w2 ⟨s, rfl, hs, hb⟩
    clear C
    have hsz : s.size ≤ 40 := by have := HL.out; rw [← hs, ← Lib.size_eq] at this; exact this
    have hz : (⟨#[97, 116, 32]⟩ : ByteArray).size + s.size ≤ 9223372036854775807 := by show 3 + s.size ≤ _; omega
    have HS : Hid (s.data.toList = Lib.itoa at_) := hs
    have F1 : Full (w.alloc (.cells #[.int .i64 0, .int .i64 at_, .int .i64 p] 30)) w.heap.size 30 [.int .i64 0, .int .i64 at_, .int .i64 p] := Full.new w _ _
    have F2 : Full ((w.alloc (.cells #[.int .i64 0, .int .i64 at_, .int .i64 p] 30)).alloc (.cells #[.int .i64 ph, .int .i64 t] 34)) (w.alloc (.cells #[.int .i64 0, .int .i64 at_, .int .i64 p] 30)).heap.size 34 [.int .i64 ph, .int .i64 t] := Full.new _ _ _
    rw [show (w.alloc (.cells #[.int .i64 0, .int .i64 at_, .int .i64 p] 30)).heap.size = w.heap.size + 1 by simp] at F2
    have F1 := F1.next (((Below.refl _ _).alloc (Nat.le_refl _) _ : Below _ _ ((w.alloc (.cells #[.int .i64 0, .int .i64 at_, .int .i64 p] 30)).alloc (.cells #[.int .i64 ph, .int .i64 t] 34))))
    have F1 := F1.next hb
    have F2 := F2.next hb
    have e0 := (F1.cell 0 _ rfl).1
    have e1 := (F1.cell 1 _ rfl).1
    have e2 := (F1.cell 2 _ rfl).1
    have d0 := (F2.cell 0 _ rfl).1
    have d1 := (F2.cell 1 _ rfl).1
    have HBb : Hid (Below w.heap.size w w2) := HB.out.trans (hb.mono HB.out.size)
    clear hb hs HB HT hsz F1 F2
    go_wp2
    go_ret
    exact ⟨_, rfl, by rw [cat_list, HS.out, HR.out], HBb.out⟩
  by_cases h1 : k = 1
  · subst h1
    have B1 : Below w.heap.size w ((w.alloc (.cells #[.int .i64 1, .int .i64 at_, .int .i64 p] 30)).alloc (.cells #[.int .i64 ph, .int .i64 t] 34)) := ((Below.refl _ w).alloc (Nat.le_refl _) _).alloc (by simp) _
    have HB : Hid (Below w.heap.size w ((w.alloc (.cells #[.int .i64 1, .int .i64 at_, .int .i64 p] 30)).alloc (.cells #[.int .i64 ph, .int .i64 t] 34))) := B1
    have HR : Hid (stpS 1 at_ p ph t = ([97, 116, 32] ++ Lib.itoa at_) ++ [58, 32] ++ ([115, 116, 101, 112])) := by show stpS 1 at_ p ph t = _; unfold stpS rsnS; rw [if_neg (by omega), if_pos rfl]
    have C := itoa_any at_ _ ha (hT.next B1).p10
    have hln := Lib.itoa_length_le at_ ha.1 ha.2
    have HL : Hid ((Lib.itoa at_).length ≤ 40) := by show _ ≤ 40; omega
    have HT : Hid (∀ W, Below w.heap.size w W → TW W) := fun W h => hT.next h
    have HP : Hid (-9223372036854775808 ≤ p ∧ p ≤ 9223372036854775807) := hp
    clear hT ha hp B1 hln
    go_enter Tryz.func9, Tryz.ntmps9
    go_wp2_with fail
    refine C.mono ?_
    rintro e w2 ⟨s, rfl, hs, hb⟩
    clear C
    have hsz : s.size ≤ 40 := by have := HL.out; rw [← hs, ← Lib.size_eq] at this; exact this
    have hz : (⟨#[97, 116, 32]⟩ : ByteArray).size + s.size ≤ 9223372036854775807 := by show 3 + s.size ≤ _; omega
    have HS : Hid (s.data.toList = Lib.itoa at_) := hs
    have F1 : Full (w.alloc (.cells #[.int .i64 1, .int .i64 at_, .int .i64 p] 30)) w.heap.size 30 [.int .i64 1, .int .i64 at_, .int .i64 p] := Full.new w _ _
    have F2 : Full ((w.alloc (.cells #[.int .i64 1, .int .i64 at_, .int .i64 p] 30)).alloc (.cells #[.int .i64 ph, .int .i64 t] 34)) (w.alloc (.cells #[.int .i64 1, .int .i64 at_, .int .i64 p] 30)).heap.size 34 [.int .i64 ph, .int .i64 t] := Full.new _ _ _
    rw [show (w.alloc (.cells #[.int .i64 1, .int .i64 at_, .int .i64 p] 30)).heap.size = w.heap.size + 1 by simp] at F2
    have F1 := F1.next (((Below.refl _ _).alloc (Nat.le_refl _) _ : Below _ _ ((w.alloc (.cells #[.int .i64 1, .int .i64 at_, .int .i64 p] 30)).alloc (.cells #[.int .i64 ph, .int .i64 t] 34))))
    have F1 := F1.next hb
    have F2 := F2.next hb
    have e0 := (F1.cell 0 _ rfl).1
    have e1 := (F1.cell 1 _ rfl).1
    have e2 := (F1.cell 2 _ rfl).1
    have d0 := (F2.cell 0 _ rfl).1
    have d1 := (F2.cell 1 _ rfl).1
    have HBb : Hid (Below w.heap.size w w2) := HB.out.trans (hb.mono HB.out.size)
    have hz2 : ((⟨#[97, 116, 32]⟩ : ByteArray) ++ s).size + (⟨#[58, 32, 115, 116, 101, 112]⟩ : ByteArray).size ≤ 9223372036854775807 := by rw [ByteArray.size_append]; show 3 + s.size + 6 ≤ _; omega
    clear hb hs HB HT hsz F1 F2
    go_wp2
    go_ret
    exact ⟨_, rfl, by rw [cat_list, cat_list, HS.out, HR.out, List.append_assoc ([97, 116, 32] ++ Lib.itoa at_)]; rfl, HBb.out⟩
  by_cases h2 : k = 2
  · subst h2
    have B1 : Below w.heap.size w ((w.alloc (.cells #[.int .i64 2, .int .i64 at_, .int .i64 p] 30)).alloc (.cells #[.int .i64 ph, .int .i64 t] 34)) := ((Below.refl _ w).alloc (Nat.le_refl _) _).alloc (by simp) _
    have HB : Hid (Below w.heap.size w ((w.alloc (.cells #[.int .i64 2, .int .i64 at_, .int .i64 p] 30)).alloc (.cells #[.int .i64 ph, .int .i64 t] 34))) := B1
    have HR : Hid (stpS 2 at_ p ph t = ([97, 116, 32] ++ Lib.itoa at_) ++ [58, 32] ++ ([112, 111, 105, 110, 116, 32] ++ Lib.itoa p)) := by show stpS 2 at_ p ph t = _; unfold stpS rsnS; rw [if_neg (by omega), if_neg (by omega), if_pos rfl]
    have C := itoa_any at_ _ ha (hT.next B1).p10
    have hln := Lib.itoa_length_le at_ ha.1 ha.2
    have HL : Hid ((Lib.itoa at_).length ≤ 40) := by show _ ≤ 40; omega
    have HT : Hid (∀ W, Below w.heap.size w W → TW W) := fun W h => hT.next h
    have HP : Hid (-9223372036854775808 ≤ p ∧ p ≤ 9223372036854775807) := hp
    clear hT ha hp B1 hln
    go_enter Tryz.func9, Tryz.ntmps9
    go_wp2_with fail
    refine C.mono ?_
    rintro e w2 ⟨s, rfl, hs, hb⟩
    clear C
    have hsz : s.size ≤ 40 := by have := HL.out; rw [← hs, ← Lib.size_eq] at this; exact this
    have hz : (⟨#[97, 116, 32]⟩ : ByteArray).size + s.size ≤ 9223372036854775807 := by show 3 + s.size ≤ _; omega
    have HS : Hid (s.data.toList = Lib.itoa at_) := hs
    have F1 : Full (w.alloc (.cells #[.int .i64 2, .int .i64 at_, .int .i64 p] 30)) w.heap.size 30 [.int .i64 2, .int .i64 at_, .int .i64 p] := Full.new w _ _
    have F2 : Full ((w.alloc (.cells #[.int .i64 2, .int .i64 at_, .int .i64 p] 30)).alloc (.cells #[.int .i64 ph, .int .i64 t] 34)) (w.alloc (.cells #[.int .i64 2, .int .i64 at_, .int .i64 p] 30)).heap.size 34 [.int .i64 ph, .int .i64 t] := Full.new _ _ _
    rw [show (w.alloc (.cells #[.int .i64 2, .int .i64 at_, .int .i64 p] 30)).heap.size = w.heap.size + 1 by simp] at F2
    have F1 := F1.next (((Below.refl _ _).alloc (Nat.le_refl _) _ : Below _ _ ((w.alloc (.cells #[.int .i64 2, .int .i64 at_, .int .i64 p] 30)).alloc (.cells #[.int .i64 ph, .int .i64 t] 34))))
    have F1 := F1.next hb
    have F2 := F2.next hb
    have e0 := (F1.cell 0 _ rfl).1
    have e1 := (F1.cell 1 _ rfl).1
    have e2 := (F1.cell 2 _ rfl).1
    have d0 := (F2.cell 0 _ rfl).1
    have d1 := (F2.cell 1 _ rfl).1
    have HBb : Hid (Below w.heap.size w w2) := HB.out.trans (hb.mono HB.out.size)
    have C2 := itoa_any p w2 HP.out (HT.out w2 HBb.out).p10
    have hlp := Lib.itoa_length_le p HP.out.1 HP.out.2
    have HLp : Hid ((Lib.itoa p).length ≤ 40) := by show _ ≤ 40; omega
    have hz2 : ((⟨#[97, 116, 32]⟩ : ByteArray) ++ s).size + (⟨#[58, 32, 112, 111, 105, 110, 116, 32]⟩ : ByteArray).size ≤ 9223372036854775807 := by rw [ByteArray.size_append]; show 3 + s.size + 8 ≤ _; omega
    clear hb hs HB HT F1 F2 hlp HP
    go_wp2_with fail
    refine C2.mono ?_
    rintro e w3 ⟨u, rfl, hu, hb⟩
    have hz3 : ((⟨#[97, 116, 32]⟩ : ByteArray) ++ s ++ (⟨#[58, 32, 112, 111, 105, 110, 116, 32]⟩ : ByteArray)).size + u.size ≤ 9223372036854775807 := by
      have := HLp.out
      rw [← hu, ← Lib.size_eq] at this
      rw [ByteArray.size_append, ByteArray.size_append]; show 3 + s.size + 8 + u.size ≤ _; omega
    have HU : Hid (u.data.toList = Lib.itoa p) := hu
    have HBc : Hid (Below w.heap.size w w3) := HBb.out.trans (hb.mono HBb.out.size)
    clear hb hu HBb e0 e1 e2 d0 d1
    go_wp2
    go_ret
    exact ⟨_, rfl, by rw [cat_list, cat_list, cat_list, HS.out, HU.out, HR.out]; simp, HBc.out⟩
  by_cases h3 : k = 3
  · subst h3
    have B1 : Below w.heap.size w ((w.alloc (.cells #[.int .i64 3, .int .i64 at_, .int .i64 p] 30)).alloc (.cells #[.int .i64 ph, .int .i64 t] 34)) := ((Below.refl _ w).alloc (Nat.le_refl _) _).alloc (by simp) _
    have HB : Hid (Below w.heap.size w ((w.alloc (.cells #[.int .i64 3, .int .i64 at_, .int .i64 p] 30)).alloc (.cells #[.int .i64 ph, .int .i64 t] 34))) := B1
    have HR : Hid (stpS 3 at_ p ph t = ([97, 116, 32] ++ Lib.itoa at_) ++ [58, 32] ++ (edS ph t)) := by show stpS 3 at_ p ph t = _; unfold stpS rsnS; rw [if_neg (by omega), if_neg (by omega), if_neg (by omega), if_pos rfl]
    have C := itoa_any at_ _ ha (hT.next B1).p10
    have hln := Lib.itoa_length_le at_ ha.1 ha.2
    have HL : Hid ((Lib.itoa at_).length ≤ 40) := by show _ ≤ 40; omega
    have HT : Hid (∀ W, Below w.heap.size w W → TW W) := fun W h => hT.next h
    have HP : Hid (-9223372036854775808 ≤ p ∧ p ≤ 9223372036854775807) := hp
    clear hT ha hp B1 hln
    go_enter Tryz.func9, Tryz.ntmps9
    go_wp2_with fail
    refine C.mono ?_
    rintro e w2 ⟨s, rfl, hs, hb⟩
    clear C
    have hsz : s.size ≤ 40 := by have := HL.out; rw [← hs, ← Lib.size_eq] at this; exact this
    have hz : (⟨#[97, 116, 32]⟩ : ByteArray).size + s.size ≤ 9223372036854775807 := by show 3 + s.size ≤ _; omega
    have HS : Hid (s.data.toList = Lib.itoa at_) := hs
    have F1 : Full (w.alloc (.cells #[.int .i64 3, .int .i64 at_, .int .i64 p] 30)) w.heap.size 30 [.int .i64 3, .int .i64 at_, .int .i64 p] := Full.new w _ _
    have F2 : Full ((w.alloc (.cells #[.int .i64 3, .int .i64 at_, .int .i64 p] 30)).alloc (.cells #[.int .i64 ph, .int .i64 t] 34)) (w.alloc (.cells #[.int .i64 3, .int .i64 at_, .int .i64 p] 30)).heap.size 34 [.int .i64 ph, .int .i64 t] := Full.new _ _ _
    rw [show (w.alloc (.cells #[.int .i64 3, .int .i64 at_, .int .i64 p] 30)).heap.size = w.heap.size + 1 by simp] at F2
    have F1 := F1.next (((Below.refl _ _).alloc (Nat.le_refl _) _ : Below _ _ ((w.alloc (.cells #[.int .i64 3, .int .i64 at_, .int .i64 p] 30)).alloc (.cells #[.int .i64 ph, .int .i64 t] 34))))
    have F1 := F1.next hb
    have F2 := F2.next hb
    have e0 := (F1.cell 0 _ rfl).1
    have e1 := (F1.cell 1 _ rfl).1
    have e2 := (F1.cell 2 _ rfl).1
    have d0 := (F2.cell 0 _ rfl).1
    have d1 := (F2.cell 1 _ rfl).1
    have HBb : Hid (Below w.heap.size w w2) := HB.out.trans (hb.mono HB.out.size)
    have C2 := over_any ph t w2 (HT.out w2 HBb.out)
    have HLp : Hid ((edS ph t).length ≤ 11) := edS_len ph t
    clear hb hs HB HT F1 F2 HP
    go_wp2_with fail
    refine C2.mono ?_
    rintro e w3 ⟨u, rfl, hu, hb⟩
    have hz3 : ((⟨#[97, 116, 32]⟩ : ByteArray) ++ s).size + u.size ≤ 9223372036854775807 := by
      have := HLp.out
      rw [Lib.size_eq u, hu, List.length_append]
      rw [ByteArray.size_append]; show 3 + s.size + (2 + _) ≤ _; omega
    have HU : Hid (u.data.toList = [58, 32] ++ edS ph t) := hu
    have HBc : Hid (Below w.heap.size w w3) := HBb.out.trans (hb.mono HBb.out.size)
    clear hb hu HBb e0 e1 e2 d0 d1
    go_wp2
    go_ret
    exact ⟨_, rfl, by rw [cat_list, cat_list, HS.out, HU.out, HR.out]; simp, HBc.out⟩
  by_cases h4 : k = 4
  · subst h4
    have B1 : Below w.heap.size w ((w.alloc (.cells #[.int .i64 4, .int .i64 at_, .int .i64 p] 30)).alloc (.cells #[.int .i64 ph, .int .i64 t] 34)) := ((Below.refl _ w).alloc (Nat.le_refl _) _).alloc (by simp) _
    have HB : Hid (Below w.heap.size w ((w.alloc (.cells #[.int .i64 4, .int .i64 at_, .int .i64 p] 30)).alloc (.cells #[.int .i64 ph, .int .i64 t] 34))) := B1
    have HR : Hid (stpS 4 at_ p ph t = ([97, 116, 32] ++ Lib.itoa at_) ++ [58, 32] ++ ([115, 116, 97, 114, 116])) := by show stpS 4 at_ p ph t = _; unfold stpS rsnS; rw [if_neg (by omega), if_neg (by omega), if_neg (by omega), if_neg (by omega), if_pos rfl]
    have C := itoa_any at_ _ ha (hT.next B1).p10
    have hln := Lib.itoa_length_le at_ ha.1 ha.2
    have HL : Hid ((Lib.itoa at_).length ≤ 40) := by show _ ≤ 40; omega
    have HT : Hid (∀ W, Below w.heap.size w W → TW W) := fun W h => hT.next h
    have HP : Hid (-9223372036854775808 ≤ p ∧ p ≤ 9223372036854775807) := hp
    clear hT ha hp B1 hln
    go_enter Tryz.func9, Tryz.ntmps9
    go_wp2_with fail
    refine C.mono ?_
    rintro e w2 ⟨s, rfl, hs, hb⟩
    clear C
    have hsz : s.size ≤ 40 := by have := HL.out; rw [← hs, ← Lib.size_eq] at this; exact this
    have hz : (⟨#[97, 116, 32]⟩ : ByteArray).size + s.size ≤ 9223372036854775807 := by show 3 + s.size ≤ _; omega
    have HS : Hid (s.data.toList = Lib.itoa at_) := hs
    have F1 : Full (w.alloc (.cells #[.int .i64 4, .int .i64 at_, .int .i64 p] 30)) w.heap.size 30 [.int .i64 4, .int .i64 at_, .int .i64 p] := Full.new w _ _
    have F2 : Full ((w.alloc (.cells #[.int .i64 4, .int .i64 at_, .int .i64 p] 30)).alloc (.cells #[.int .i64 ph, .int .i64 t] 34)) (w.alloc (.cells #[.int .i64 4, .int .i64 at_, .int .i64 p] 30)).heap.size 34 [.int .i64 ph, .int .i64 t] := Full.new _ _ _
    rw [show (w.alloc (.cells #[.int .i64 4, .int .i64 at_, .int .i64 p] 30)).heap.size = w.heap.size + 1 by simp] at F2
    have F1 := F1.next (((Below.refl _ _).alloc (Nat.le_refl _) _ : Below _ _ ((w.alloc (.cells #[.int .i64 4, .int .i64 at_, .int .i64 p] 30)).alloc (.cells #[.int .i64 ph, .int .i64 t] 34))))
    have F1 := F1.next hb
    have F2 := F2.next hb
    have e0 := (F1.cell 0 _ rfl).1
    have e1 := (F1.cell 1 _ rfl).1
    have e2 := (F1.cell 2 _ rfl).1
    have d0 := (F2.cell 0 _ rfl).1
    have d1 := (F2.cell 1 _ rfl).1
    have HBb : Hid (Below w.heap.size w w2) := HB.out.trans (hb.mono HB.out.size)
    have hz2 : ((⟨#[97, 116, 32]⟩ : ByteArray) ++ s).size + (⟨#[58, 32, 115, 116, 97, 114, 116]⟩ : ByteArray).size ≤ 9223372036854775807 := by rw [ByteArray.size_append]; show 3 + s.size + 7 ≤ _; omega
    clear hb hs HB HT hsz F1 F2
    go_wp2
    go_ret
    exact ⟨_, rfl, by rw [cat_list, cat_list, HS.out, HR.out, List.append_assoc ([97, 116, 32] ++ Lib.itoa at_)]; rfl, HBb.out⟩
  by_cases h5 : k = 5
  · subst h5
    have B1 : Below w.heap.size w ((w.alloc (.cells #[.int .i64 5, .int .i64 at_, .int .i64 p] 30)).alloc (.cells #[.int .i64 ph, .int .i64 t] 34)) := ((Below.refl _ w).alloc (Nat.le_refl _) _).alloc (by simp) _
    have HB : Hid (Below w.heap.size w ((w.alloc (.cells #[.int .i64 5, .int .i64 at_, .int .i64 p] 30)).alloc (.cells #[.int .i64 ph, .int .i64 t] 34))) := B1
    have HR : Hid (stpS 5 at_ p ph t = ([97, 116, 32] ++ Lib.itoa at_) ++ [58, 32] ++ ([98, 117, 100, 103, 101, 116])) := by show stpS 5 at_ p ph t = _; unfold stpS rsnS; rw [if_neg (by omega), if_neg (by omega), if_neg (by omega), if_neg (by omega), if_neg (by omega), if_pos rfl]
    have C := itoa_any at_ _ ha (hT.next B1).p10
    have hln := Lib.itoa_length_le at_ ha.1 ha.2
    have HL : Hid ((Lib.itoa at_).length ≤ 40) := by show _ ≤ 40; omega
    have HT : Hid (∀ W, Below w.heap.size w W → TW W) := fun W h => hT.next h
    have HP : Hid (-9223372036854775808 ≤ p ∧ p ≤ 9223372036854775807) := hp
    clear hT ha hp B1 hln
    go_enter Tryz.func9, Tryz.ntmps9
    go_wp2_with fail
    refine C.mono ?_
    rintro e w2 ⟨s, rfl, hs, hb⟩
    clear C
    have hsz : s.size ≤ 40 := by have := HL.out; rw [← hs, ← Lib.size_eq] at this; exact this
    have hz : (⟨#[97, 116, 32]⟩ : ByteArray).size + s.size ≤ 9223372036854775807 := by show 3 + s.size ≤ _; omega
    have HS : Hid (s.data.toList = Lib.itoa at_) := hs
    have F1 : Full (w.alloc (.cells #[.int .i64 5, .int .i64 at_, .int .i64 p] 30)) w.heap.size 30 [.int .i64 5, .int .i64 at_, .int .i64 p] := Full.new w _ _
    have F2 : Full ((w.alloc (.cells #[.int .i64 5, .int .i64 at_, .int .i64 p] 30)).alloc (.cells #[.int .i64 ph, .int .i64 t] 34)) (w.alloc (.cells #[.int .i64 5, .int .i64 at_, .int .i64 p] 30)).heap.size 34 [.int .i64 ph, .int .i64 t] := Full.new _ _ _
    rw [show (w.alloc (.cells #[.int .i64 5, .int .i64 at_, .int .i64 p] 30)).heap.size = w.heap.size + 1 by simp] at F2
    have F1 := F1.next (((Below.refl _ _).alloc (Nat.le_refl _) _ : Below _ _ ((w.alloc (.cells #[.int .i64 5, .int .i64 at_, .int .i64 p] 30)).alloc (.cells #[.int .i64 ph, .int .i64 t] 34))))
    have F1 := F1.next hb
    have F2 := F2.next hb
    have e0 := (F1.cell 0 _ rfl).1
    have e1 := (F1.cell 1 _ rfl).1
    have e2 := (F1.cell 2 _ rfl).1
    have d0 := (F2.cell 0 _ rfl).1
    have d1 := (F2.cell 1 _ rfl).1
    have HBb : Hid (Below w.heap.size w w2) := HB.out.trans (hb.mono HB.out.size)
    have hz2 : ((⟨#[97, 116, 32]⟩ : ByteArray) ++ s).size + (⟨#[58, 32, 98, 117, 100, 103, 101, 116]⟩ : ByteArray).size ≤ 9223372036854775807 := by rw [ByteArray.size_append]; show 3 + s.size + 8 ≤ _; omega
    clear hb hs HB HT hsz F1 F2
    go_wp2
    go_ret
    exact ⟨_, rfl, by rw [cat_list, cat_list, HS.out, HR.out, List.append_assoc ([97, 116, 32] ++ Lib.itoa at_)]; rfl, HBb.out⟩
  by_cases h6 : k = 6
  · subst h6
    have B1 : Below w.heap.size w ((w.alloc (.cells #[.int .i64 6, .int .i64 at_, .int .i64 p] 30)).alloc (.cells #[.int .i64 ph, .int .i64 t] 34)) := ((Below.refl _ w).alloc (Nat.le_refl _) _).alloc (by simp) _
    have HB : Hid (Below w.heap.size w ((w.alloc (.cells #[.int .i64 6, .int .i64 at_, .int .i64 p] 30)).alloc (.cells #[.int .i64 ph, .int .i64 t] 34))) := B1
    have HR : Hid (stpS 6 at_ p ph t = ([97, 116, 32] ++ Lib.itoa at_) ++ [58, 32] ++ ([103, 111, 116, 111])) := by show stpS 6 at_ p ph t = _; unfold stpS rsnS; rw [if_neg (by omega), if_neg (by omega), if_neg (by omega), if_neg (by omega), if_neg (by omega), if_neg (by omega), if_pos rfl]
    have C := itoa_any at_ _ ha (hT.next B1).p10
    have hln := Lib.itoa_length_le at_ ha.1 ha.2
    have HL : Hid ((Lib.itoa at_).length ≤ 40) := by show _ ≤ 40; omega
    have HT : Hid (∀ W, Below w.heap.size w W → TW W) := fun W h => hT.next h
    have HP : Hid (-9223372036854775808 ≤ p ∧ p ≤ 9223372036854775807) := hp
    clear hT ha hp B1 hln
    go_enter Tryz.func9, Tryz.ntmps9
    go_wp2_with fail
    refine C.mono ?_
    rintro e w2 ⟨s, rfl, hs, hb⟩
    clear C
    have hsz : s.size ≤ 40 := by have := HL.out; rw [← hs, ← Lib.size_eq] at this; exact this
    have hz : (⟨#[97, 116, 32]⟩ : ByteArray).size + s.size ≤ 9223372036854775807 := by show 3 + s.size ≤ _; omega
    have HS : Hid (s.data.toList = Lib.itoa at_) := hs
    have F1 : Full (w.alloc (.cells #[.int .i64 6, .int .i64 at_, .int .i64 p] 30)) w.heap.size 30 [.int .i64 6, .int .i64 at_, .int .i64 p] := Full.new w _ _
    have F2 : Full ((w.alloc (.cells #[.int .i64 6, .int .i64 at_, .int .i64 p] 30)).alloc (.cells #[.int .i64 ph, .int .i64 t] 34)) (w.alloc (.cells #[.int .i64 6, .int .i64 at_, .int .i64 p] 30)).heap.size 34 [.int .i64 ph, .int .i64 t] := Full.new _ _ _
    rw [show (w.alloc (.cells #[.int .i64 6, .int .i64 at_, .int .i64 p] 30)).heap.size = w.heap.size + 1 by simp] at F2
    have F1 := F1.next (((Below.refl _ _).alloc (Nat.le_refl _) _ : Below _ _ ((w.alloc (.cells #[.int .i64 6, .int .i64 at_, .int .i64 p] 30)).alloc (.cells #[.int .i64 ph, .int .i64 t] 34))))
    have F1 := F1.next hb
    have F2 := F2.next hb
    have e0 := (F1.cell 0 _ rfl).1
    have e1 := (F1.cell 1 _ rfl).1
    have e2 := (F1.cell 2 _ rfl).1
    have d0 := (F2.cell 0 _ rfl).1
    have d1 := (F2.cell 1 _ rfl).1
    have HBb : Hid (Below w.heap.size w w2) := HB.out.trans (hb.mono HB.out.size)
    have hz2 : ((⟨#[97, 116, 32]⟩ : ByteArray) ++ s).size + (⟨#[58, 32, 103, 111, 116, 111]⟩ : ByteArray).size ≤ 9223372036854775807 := by rw [ByteArray.size_append]; show 3 + s.size + 6 ≤ _; omega
    clear hb hs HB HT hsz F1 F2
    go_wp2
    go_ret
    exact ⟨_, rfl, by rw [cat_list, cat_list, HS.out, HR.out, List.append_assoc ([97, 116, 32] ++ Lib.itoa at_)]; rfl, HBb.out⟩
  have B1 : Below w.heap.size w ((w.alloc (.cells #[.int .i64 k, .int .i64 at_, .int .i64 p] 30)).alloc (.cells #[.int .i64 ph, .int .i64 t] 34)) := ((Below.refl _ w).alloc (Nat.le_refl _) _).alloc (by simp) _
  have HB : Hid (Below w.heap.size w ((w.alloc (.cells #[.int .i64 k, .int .i64 at_, .int .i64 p] 30)).alloc (.cells #[.int .i64 ph, .int .i64 t] 34))) := B1
  have HR : Hid (stpS k at_ p ph t = ([97, 116, 32] ++ Lib.itoa at_) ++ [58, 32] ++ ([63])) := by show stpS k at_ p ph t = _; unfold stpS rsnS; rw [if_neg h0, if_neg h1, if_neg h2, if_neg h3, if_neg h4, if_neg h5, if_neg h6]
  have C := itoa_any at_ _ ha (hT.next B1).p10
  have hln := Lib.itoa_length_le at_ ha.1 ha.2
  have HL : Hid ((Lib.itoa at_).length ≤ 40) := by show _ ≤ 40; omega
  have HT : Hid (∀ W, Below w.heap.size w W → TW W) := fun W h => hT.next h
  have HP : Hid (-9223372036854775808 ≤ p ∧ p ≤ 9223372036854775807) := hp
  clear hT ha hp B1 hln
  go_enter Tryz.func9, Tryz.ntmps9
  go_wp2_with fail
  refine C.mono ?_
  rintro e w2 ⟨s, rfl, hs, hb⟩
  clear C
  have hsz : s.size ≤ 40 := by have := HL.out; rw [← hs, ← Lib.size_eq] at this; exact this
  have hz : (⟨#[97, 116, 32]⟩ : ByteArray).size + s.size ≤ 9223372036854775807 := by show 3 + s.size ≤ _; omega
  have HS : Hid (s.data.toList = Lib.itoa at_) := hs
  have F1 : Full (w.alloc (.cells #[.int .i64 k, .int .i64 at_, .int .i64 p] 30)) w.heap.size 30 [.int .i64 k, .int .i64 at_, .int .i64 p] := Full.new w _ _
  have F2 : Full ((w.alloc (.cells #[.int .i64 k, .int .i64 at_, .int .i64 p] 30)).alloc (.cells #[.int .i64 ph, .int .i64 t] 34)) (w.alloc (.cells #[.int .i64 k, .int .i64 at_, .int .i64 p] 30)).heap.size 34 [.int .i64 ph, .int .i64 t] := Full.new _ _ _
  rw [show (w.alloc (.cells #[.int .i64 k, .int .i64 at_, .int .i64 p] 30)).heap.size = w.heap.size + 1 by simp] at F2
  have F1 := F1.next (((Below.refl _ _).alloc (Nat.le_refl _) _ : Below _ _ ((w.alloc (.cells #[.int .i64 k, .int .i64 at_, .int .i64 p] 30)).alloc (.cells #[.int .i64 ph, .int .i64 t] 34))))
  have F1 := F1.next hb
  have F2 := F2.next hb
  have e0 := (F1.cell 0 _ rfl).1
  have e1 := (F1.cell 1 _ rfl).1
  have e2 := (F1.cell 2 _ rfl).1
  have d0 := (F2.cell 0 _ rfl).1
  have d1 := (F2.cell 1 _ rfl).1
  have HBb : Hid (Below w.heap.size w w2) := HB.out.trans (hb.mono HB.out.size)
  have hz2 : ((⟨#[97, 116, 32]⟩ : ByteArray) ++ s).size + (⟨#[58, 32, 63]⟩ : ByteArray).size ≤ 9223372036854775807 := by rw [ByteArray.size_append]; show 3 + s.size + 3 ≤ _; omega
  clear hb hs HB HT hsz F1 F2
  go_wp2
  go_ret
  exact ⟨_, rfl, by rw [cat_list, cat_list, HS.out, HR.out, List.append_assoc ([97, 116, 32] ++ Lib.itoa at_)]; rfl, HBb.out⟩
end Go.Proofs.YtichbejmelkjeaaGreatDoor

namespace Go.Proofs.YtichbejmelkjeaaGreatDoor
open Go.RowKit

/-- A command's words. -/
def wrS (c : Cm) : List (List UInt8) := if c.kind < 0 ∨ 23 ≤ c.kind then [] else (rws.getD c.kind.toNat ([], 0)).1 :: (if tks c.kind.toNat = 2 ∨ tks c.kind.toNat = 3 then pwS c else if tks c.kind.toNat = 4 ∨ tks c.kind.toNat = 5 then [Lib.itoa c.n] else if tks c.kind.toNat = 6 then [c.text] else [])
def WrP (w : World) (c : Cm) (e : Ending) (w' : World) : Prop :=
  ∃ q cap, e = .returned (.slice q (wrS c).length cap) ∧ Hid (((wrS c = [] ∧ q = none) ∨ ∃ G, q = some ⟨G, 0, none⟩ ∧ w'.rangeAt G 0 ((wrS c).map sV) ∧ (wrS c).length ≤ cap ∧ G < w'.heap.size) ∧ Below w.heap.size w w')
theorem WrP.own {w w' : World} {c : Cm} {G n cap : Nat} (h : w'.ownsRow w.heap.size 9 1 (.slice (some ⟨G, 0, none⟩) n cap) n ((wrS c).map sV)) (hn : n = (wrS c).length) (hb : Below w.heap.size w w') : WrP w c (.returned (.slice (some ⟨G, 0, none⟩) n cap)) w' := by
  subst hn
  have hlt := (h.lt _ rfl).2
  obtain ⟨q, cp, e, hc, hr⟩ := own_slice h
  simp only [Value.slice.injEq] at e
  obtain ⟨rfl, -, rfl⟩ := e
  by_cases h0 : 0 < (wrS c).length
  · obtain ⟨g, hq, hr⟩ := hr h0
    cases hq
    exact ⟨_, _, rfl, .inr ⟨G, rfl, hr, hc, hlt⟩, hb⟩
  · have hz : wrS c = [] := List.eq_nil_of_length_eq_zero (by omega)
    exact ⟨_, _, rfl, .inr ⟨G, rfl, by rw [hz]; intro j v hv; simp at hv, hc, hlt⟩, hb⟩

set_option maxRecDepth 100000 in
set_option maxHeartbeats 4000000 in
theorem written_any (kd pk ln nn : Int) (nm cd tx : ByteArray) (off : Bool) (w : World) (hT : Tb w) (hl : -9223372036854775808 ≤ ln ∧ ln ≤ 9223372036854775807) (hn : -9223372036854775808 ≤ nn ∧ nn ≤ 9223372036854775807) :
    Calls Tryz.prog 30 #[.agg #[.int .i64 kd, .int .i64 pk, .int .i64 ln, .string nm, .string cd, .bool off, .int .i64 nn, .string tx]] w (WrP w ⟨kd, pk, ln, nm.data.toList, cd.data.toList, off, nn, tx.data.toList⟩) := by
  obtain ⟨c, hc⟩ : ∃ c : Cm, c = ⟨kd, pk, ln, nm.data.toList, cd.data.toList, off, nn, tx.data.toList⟩ := ⟨_, rfl⟩
  rw [← hc]
  obtain ⟨X1, hX1⟩ : ∃ X1, w.alloc (.cells #[.int .i64 kd, .int .i64 pk, .int .i64 ln, .string nm, .string cd, .bool off, .int .i64 nn, .string tx] 51) = X1 := ⟨_, rfl⟩
  have b1 : Below w.heap.size w X1 := by rw [← hX1]; exact (Below.refl _ w).alloc (Nat.le_refl _) _
  have f1 : Full X1 w.heap.size 51 [.int .i64 kd, .int .i64 pk, .int .i64 ln, .string nm, .string cd, .bool off, .int .i64 nn, .string tx] := by rw [← hX1]; exact Full.new w _ _
  have z1 : X1.heap.size = w.heap.size + 1 := by rw [← hX1]; simp
  obtain ⟨⟨e0, -⟩, ⟨e1, -⟩, ⟨e2, -⟩, ⟨e3, -⟩, ⟨e4, -⟩, ⟨e5, -⟩, ⟨e6, -⟩, ⟨e7, -⟩⟩ := f1.cell8
  by_cases hbad : kd < 0 ∨ 23 ≤ kd
  · have HW : Hid (wrS c = []) := by
      show wrS c = []
      unfold wrS; rw [hc]; exact if_pos hbad
    have hB : Hid (Below w.heap.size w X1) := b1
    have hq : kd < 0 ∨ (¬ kd < 0 ∧ 23 ≤ kd) := by omega
    clear hc f1 b1 z1 hbad hT
    rcases hq with h | ⟨h, h'⟩
    all_goals
      go_enter Tryz.func30, Tryz.ntmps30
      go_wp2
      go_ret
      unfold WrP
      rw [HW.out]
      exact ⟨none, 0, rfl, .inl ⟨rfl, rfl⟩, hB.out⟩
  · obtain ⟨kn, rfl⟩ : ∃ kn : Nat, kd = (kn : Int) := ⟨kd.toNat, by omega⟩
    have hkl : kn < 23 := by omega
    have hk0 : ¬ (kn : Int) < 0 := by omega
    have hk1 : ¬ (23 : Int) ≤ (kn : Int) := by omega
    have hk2 : (0 : Int) ≤ (kn : Int) := by omega
    have hk3 : (kn : Int) < 23 := by omega
    obtain ⟨tn, htn⟩ : ∃ tn, tks kn = tn := ⟨_, rfl⟩
    obtain ⟨wd, hwd⟩ : ∃ wd : ByteArray, wd.data.toList = (rws.getD kn ([], 0)).1 := ⟨⟨(rws.getD kn ([], 0)).1.toArray⟩, rfl⟩
    have hwdA : (⟨(rws.getD kn ([], 0)).1.toArray⟩ : ByteArray) = wd := by rw [← hwd]
    have hWr : wrS c = wd.data.toList :: (if tn = 2 ∨ tn = 3 then pwS c else if tn = 4 ∨ tn = 5 then [Lib.itoa nn] else if tn = 6 then [tx.data.toList] else []) := by
      unfold wrS
      have e1 : c.kind = (kn : Int) := by rw [hc]
      have e2 : c.n = nn := by rw [hc]
      have e3 : c.text = tx.data.toList := by rw [hc]
      rw [e1, e2, e3, if_neg hbad, Int.toNat_natCast, htn, ← hwd]
    have hTX := hT.next b1
    have cw : X1.cell? ⟨3, kn * 2, none⟩ = some (.string wd) := by rw [← hwdA]; exact hTX.word kn hkl
    have ct1 : X1.cell? ⟨3, kn * 2 + 1, none⟩ = some (.int .i64 (tn : Int)) := by rw [← htn]; exact hTX.takes kn hkl
    obtain ⟨X2, hX2⟩ : ∃ X2, X1.alloc (.cells #[.string wd] 9) = X2 := ⟨_, rfl⟩
    have n2 : Below X1.heap.size X1 X2 := by rw [← hX2]; exact (Below.refl _ X1).alloc (Nat.le_refl _) _
    have b2 : Below w.heap.size w X2 := b1.trans (n2.mono b1.size)
    have f2 : Full X2 (w.heap.size + 1) 9 [.string wd] := by rw [← hX2, ← z1]; exact Full.new X1 _ _
    obtain ⟨⟨c0, -⟩, ⟨c1, -⟩, ⟨c2, -⟩, ⟨c3, -⟩, ⟨c4, -⟩, ⟨c5, -⟩, ⟨c6, -⟩, ⟨c7, -⟩⟩ := (f1.next n2).cell8
    have hT2 := hT.next b2
    have ct2 : X2.cell? ⟨3, kn * 2 + 1, none⟩ = some (.int .i64 (tn : Int)) := by rw [← htn]; exact hT2.takes kn hkl
    have HB : ∀ i : Nat, (tn = i → ((tn : Int) == (i : Int)) = true) ∧ (tn ≠ i → ((tn : Int) == (i : Int)) = false) := fun i => ⟨fun h => by rw [h]; exact beq_self_eq_true _, fun h => by rw [beq_eq_false_iff_ne]; omega⟩
    -- an append of m words that lie at g
    have happ : ∀ (W : World) (g m cp : Nat) (ys : List (List UInt8)), Below X2.heap.size X2 W → W.rangeAt g 0 (ys.map sV) → ys.length = m → m ≤ 10 → wrS c = wd.data.toList :: ys → ∃ G cap w9, (Builtin.append_ #[36, 36] 36 #[.slice (some ⟨w.heap.size + 1, 0, none⟩) 1 1, .slice (some ⟨g, 0, none⟩) m cp]).run Tryz.prog W = .ok (.slice (some ⟨G, 0, none⟩) (1 + m) cap) w9 ∧ Hid (WrP w c (.returned (.slice (some ⟨G, 0, none⟩) (1 + m) cap)) w9) := by
      intro W g m cp ys hb hr hm hm10 hw
      have hBW := b2.trans (hb.mono b2.size)
      have oW := own_full (base := w.heap.size) (f2.next hb) (by omega) (by simp)
      obtain ⟨G, cap, w9, r9, o9, g9⟩ := app_src (P := Tryz.prog) 36 36 _ 16 Tryz.underlying36 info_S rfl (by decide) (by decide) oW (some ⟨g, 0, none⟩) m cp (ys.map sV) (by rw [List.length_map, Nat.mul_one]; exact hm) (by simp) (fun _ => ⟨_, _, rfl, hr⟩) (by intro u hu; obtain ⟨y, -, rfl⟩ := List.mem_map.1 hu; rfl) (by simp; omega) hBW.size
      refine ⟨G, cap, w9, r9, WrP.own ?_ (by rw [hw, List.length_cons, hm]; omega) (hBW.grown g9 hBW.size (fun k e => by cases e; omega))⟩
      rw [hw, List.map_cons, sV_at (x := wd) rfl]
      exact o9
    have HApp : Hid _ := happ
    have HTb : Hid (∀ W, Below X2.heap.size X2 W → Tb W) := fun W h => hT2.next h
    clear happ
    by_cases h2 : tn = 2
    · have HWr : Hid (wrS c = wd.data.toList :: pwS c) := by
        show wrS c = _
        rw [hWr, if_pos (by omega)]
      have HC := pointWords_any c nm cd (by rw [hc]) (by rw [hc]) X2 hT2 (by rw [hc]; exact hl)
      have hpl : (pwS c).length ≤ 10 := by unfold pwS; rw [List.length_cons]; by_cases h : c.cond = [] <;> simp [h]
      have ee : c.pk = pk ∧ c.line = ln ∧ c.off = off := by rw [hc]; exact ⟨rfl, rfl, rfl⟩
      rw [ee.1, ee.2.1, ee.2.2] at HC
      have q2 := (HB 2).1 h2
      have q3 := (HB 3).2 (by omega)
      have q4 := (HB 4).2 (by omega)
      have q5 := (HB 5).2 (by omega)
      have q6 := (HB 6).2 (by omega)
      clear HB hWr hc f1 n2 b1 hT hTX hT2 hwd hwdA htn hl hn hkl hbad f2 ee h2 b2
      go_enter Tryz.func30, Tryz.ntmps30
      go_wp2_with fail
      refine HC.mono ?_
      rintro e w3 ⟨G3, cap3, rfl, hq⟩
      clear HC
      have hr3 : w3.rangeAt G3 0 ((pwS c).map sV) := by
        obtain ⟨q, cp, e, -, hr⟩ := own_slice hq.out.1
        simp only [Value.slice.injEq] at e
        obtain ⟨rfl, -, -⟩ := e
        obtain ⟨g, hg, hr⟩ := hr (by unfold pwS; simp)
        cases hg; exact hr
      obtain ⟨G, cap, w9, r9, HD⟩ := HApp.out w3 G3 (pwS c).length cap3 (pwS c) hq.out.2 hr3 rfl hpl HWr.out
      clear hr3 HApp hq
      obtain ⟨m, hm⟩ : ∃ m, (pwS c).length = m := ⟨_, rfl⟩
      rw [hm] at r9 HD ⊢
      clear hm hpl
      go_wp2_with (first
        | (at_builtin; refine wpList_apr (by rfl) _ _ 36 (by rfl) (by exact r9) ?_)
        | go_in)
      go_ret
      exact HD.out
    by_cases h3 : tn = 3
    · have HWr : Hid (wrS c = wd.data.toList :: pwS c) := by
        show wrS c = _
        rw [hWr, if_pos (by omega)]
      have HC := pointWords_any c nm cd (by rw [hc]) (by rw [hc]) X2 hT2 (by rw [hc]; exact hl)
      have hpl : (pwS c).length ≤ 10 := by unfold pwS; rw [List.length_cons]; by_cases h : c.cond = [] <;> simp [h]
      have ee : c.pk = pk ∧ c.line = ln ∧ c.off = off := by rw [hc]; exact ⟨rfl, rfl, rfl⟩
      rw [ee.1, ee.2.1, ee.2.2] at HC
      have q2 := (HB 2).2 (by omega)
      have q3 := (HB 3).1 h3
      have q4 := (HB 4).2 (by omega)
      have q5 := (HB 5).2 (by omega)
      have q6 := (HB 6).2 (by omega)
      clear HB hWr hc f1 n2 b1 hT hTX hT2 hwd hwdA htn hl hn hkl hbad f2 ee h3 b2
      go_enter Tryz.func30, Tryz.ntmps30
      go_wp2_with fail
      refine HC.mono ?_
      rintro e w3 ⟨G3, cap3, rfl, hq⟩
      clear HC
      have hr3 : w3.rangeAt G3 0 ((pwS c).map sV) := by
        obtain ⟨q, cp, e, -, hr⟩ := own_slice hq.out.1
        simp only [Value.slice.injEq] at e
        obtain ⟨rfl, -, -⟩ := e
        obtain ⟨g, hg, hr⟩ := hr (by unfold pwS; simp)
        cases hg; exact hr
      obtain ⟨G, cap, w9, r9, HD⟩ := HApp.out w3 G3 (pwS c).length cap3 (pwS c) hq.out.2 hr3 rfl hpl HWr.out
      clear hr3 HApp hq
      obtain ⟨m, hm⟩ : ∃ m, (pwS c).length = m := ⟨_, rfl⟩
      rw [hm] at r9 HD ⊢
      clear hm hpl
      go_wp2_with (first
        | (at_builtin; refine wpList_apr (by rfl) _ _ 36 (by rfl) (by exact r9) ?_)
        | go_in)
      go_ret
      exact HD.out
    by_cases h4 : tn = 4
    · have HWr : Hid (wrS c = wd.data.toList :: [Lib.itoa nn]) := by
        show wrS c = _
        rw [hWr, if_neg (by omega), if_pos (by omega)]
      have HC := itoa_any nn X2 hn hT2.p10
      have q2 := (HB 2).2 (by omega)
      have q3 := (HB 3).2 (by omega)
      have q4 := (HB 4).1 h4
      have q5 := (HB 5).2 (by omega)
      have q6 := (HB 6).2 (by omega)
      clear HB hWr hc f1 n2 b1 hT hTX hT2 hwd hwdA htn hl hn hkl hbad f2 h4 b2
      go_enter Tryz.func30, Tryz.ntmps30
      go_wp2_with fail
      refine HC.mono ?_
      rintro e w3 ⟨s, rfl, hs, hb3⟩
      clear HC
      obtain ⟨Z, hZ⟩ : ∃ Z, w3.alloc (.cells #[.string s] 9) = Z := ⟨_, rfl⟩
      have bZ : Below X2.heap.size X2 Z := by rw [← hZ]; exact hb3.alloc hb3.size _
      have fZ : Full Z w3.heap.size 9 [.string s] := by rw [← hZ]; exact Full.new w3 _ _
      obtain ⟨G, cap, w9, r9, HD⟩ := HApp.out Z w3.heap.size 1 1 [Lib.itoa nn] bZ (by rw [List.map_cons, List.map_nil, sV_at hs]; exact fZ.range) rfl (by omega) HWr.out
      clear bZ fZ hb3 HApp hs
      go_wp2_with (first
        | (at_builtin; refine wpList_apr (by rfl) _ _ 36 (by rfl) (by exact r9) ?_)
        | go_in)
      go_ret
      exact HD.out
    by_cases h5 : tn = 5
    · have HWr : Hid (wrS c = wd.data.toList :: [Lib.itoa nn]) := by
        show wrS c = _
        rw [hWr, if_neg (by omega), if_pos (by omega)]
      have HC := itoa_any nn X2 hn hT2.p10
      have q2 := (HB 2).2 (by omega)
      have q3 := (HB 3).2 (by omega)
      have q4 := (HB 4).2 (by omega)
      have q5 := (HB 5).1 h5
      have q6 := (HB 6).2 (by omega)
      clear HB hWr hc f1 n2 b1 hT hTX hT2 hwd hwdA htn hl hn hkl hbad f2 h5 b2
      go_enter Tryz.func30, Tryz.ntmps30
      go_wp2_with fail
      refine HC.mono ?_
      rintro e w3 ⟨s, rfl, hs, hb3⟩
      clear HC
      obtain ⟨Z, hZ⟩ : ∃ Z, w3.alloc (.cells #[.string s] 9) = Z := ⟨_, rfl⟩
      have bZ : Below X2.heap.size X2 Z := by rw [← hZ]; exact hb3.alloc hb3.size _
      have fZ : Full Z w3.heap.size 9 [.string s] := by rw [← hZ]; exact Full.new w3 _ _
      obtain ⟨G, cap, w9, r9, HD⟩ := HApp.out Z w3.heap.size 1 1 [Lib.itoa nn] bZ (by rw [List.map_cons, List.map_nil, sV_at hs]; exact fZ.range) rfl (by omega) HWr.out
      clear bZ fZ hb3 HApp hs
      go_wp2_with (first
        | (at_builtin; refine wpList_apr (by rfl) _ _ 36 (by rfl) (by exact r9) ?_)
        | go_in)
      go_ret
      exact HD.out
    by_cases h6 : tn = 6
    · have HWr : Hid (wrS c = wd.data.toList :: [tx.data.toList]) := by
        show wrS c = _
        rw [hWr, if_neg (by omega), if_neg (by omega), if_pos h6]
      have q2 := (HB 2).2 (by omega)
      have q3 := (HB 3).2 (by omega)
      have q4 := (HB 4).2 (by omega)
      have q5 := (HB 5).2 (by omega)
      have q6 := (HB 6).1 h6
      obtain ⟨Z, hZ⟩ : ∃ Z, X2.alloc (.cells #[.string tx] 9) = Z := ⟨_, rfl⟩
      have bZ : Below X2.heap.size X2 Z := by rw [← hZ]; exact (Below.refl _ X2).alloc (Nat.le_refl _) _
      have fZ : Full Z X2.heap.size 9 [.string tx] := by rw [← hZ]; exact Full.new X2 _ _
      obtain ⟨G, cap, w9, r9, HD⟩ := HApp.out Z X2.heap.size 1 1 [tx.data.toList] bZ (by rw [List.map_cons, List.map_nil, sV_at (x := tx) rfl]; exact fZ.range) rfl (by omega) HWr.out
      clear HB hWr hc f1 n2 b1 hT hTX hT2 hwd hwdA htn hl hn hkl hbad f2 h6 b2 bZ fZ HApp
      go_enter Tryz.func30, Tryz.ntmps30
      go_wp2_with (first
        | (at_builtin; refine wpList_apr (by rfl) _ _ 36 (by rfl) (by exact r9) ?_)
        | go_in)
      go_ret
      exact HD.out
    have HWr : Hid (wrS c = [wd.data.toList]) := by
      show wrS c = _
      rw [hWr, if_neg (by omega), if_neg (by omega), if_neg h6]
    have q2 := (HB 2).2 (by omega)
    have q3 := (HB 3).2 (by omega)
    have q4 := (HB 4).2 (by omega)
    have q5 := (HB 5).2 (by omega)
    have q6 := (HB 6).2 (by omega)
    have HD : Hid (WrP w c (.returned (.slice (some ⟨w.heap.size + 1, 0, none⟩) 1 1)) X2) := by
      refine WrP.own ?_ (by rw [HWr.out]; rfl) b2
      rw [HWr.out, List.map_cons, List.map_nil, sV_at (x := wd) rfl]
      exact own_full (base := w.heap.size) f2 (by omega) (by simp)
    clear HB hWr hc f1 n2 b1 hT hTX hT2 hwd hwdA htn hl hn hkl hbad f2 h2 h3 h4 h5 h6 b2 HApp
    go_enter Tryz.func30, Tryz.ntmps30
    go_wp2
    go_ret
    exact HD.out
end Go.Proofs.YtichbejmelkjeaaGreatDoor

namespace Go.Proofs.YtichbejmelkjeaaGreatDoor
open Go.RowKit

def eq8 (k0 p0 l0 : Int) (n0 d0 : ByteArray) (o0 : Bool) (m0 : Int) (t0 : ByteArray) (k1 p1 l1 : Int) (n1 d1 : ByteArray) (o1 : Bool) (m1 : Int) (t1 : ByteArray) : Bool := ((((((((k0 == k1) && (p0 == p1)) && (l0 == l1)) && (n0.toList == n1.toList)) && (d0.toList == d1.toList)) && (o0 == o1)) && (m0 == m1)) && (t0.toList == t1.toList))
set_option maxRecDepth 100000 in
set_option maxHeartbeats 2000000 in
theorem neq8 (k0 p0 l0 : Int) (n0 d0 : ByteArray) (o0 : Bool) (m0 : Int) (t0 : ByteArray) (k1 p1 l1 : Int) (n1 d1 : ByteArray) (o1 : Bool) (m1 : Int) (t1 : ByteArray) : ∀ w : World,
    (binOp BinOp.neq 51 (.agg #[.int .i64 k0, .int .i64 p0, .int .i64 l0, .string n0, .string d0, .bool o0, .int .i64 m0, .string t0]) (.agg #[.int .i64 k1, .int .i64 p1, .int .i64 l1, .string n1, .string d1, .bool o1, .int .i64 m1, .string t1])).run Tryz.prog w = .ok (.bool (!eq8 k0 p0 l0 n0 d0 o0 m0 t0 k1 p1 l1 n1 d1 o1 m1 t1)) w := by
  intro w
  unfold eq8
  cases h0 : (k0 == k1) with
  | false => simp [go_sem, h0]
  | true =>
    cases h1 : (p0 == p1) with
    | false => simp [go_sem, h0, h1]
    | true =>
      cases h2 : (l0 == l1) with
      | false => simp [go_sem, h0, h1, h2]
      | true =>
        cases h3 : (n0.toList == n1.toList) with
        | false => simp [go_sem, h0, h1, h2, h3]
        | true =>
          cases h4 : (d0.toList == d1.toList) with
          | false => simp [go_sem, h0, h1, h2, h3, h4]
          | true =>
            cases h5 : (o0 == o1) with
            | false => simp [go_sem, h0, h1, h2, h3, h4, h5]
            | true =>
              cases h6 : (m0 == m1) with
              | false => simp [go_sem, h0, h1, h2, h3, h4, h5, h6]
              | true =>
                cases h7 : (t0.toList == t1.toList) with
                | false => simp [go_sem, h0, h1, h2, h3, h4, h5, h6, h7]
                | true =>
                  simp [go_sem, h0, h1, h2, h3, h4, h5, h6, h7]
theorem eq8_iff (k0 p0 l0 : Int) (n0 d0 : ByteArray) (o0 : Bool) (m0 : Int) (t0 : ByteArray) (k1 p1 l1 : Int) (n1 d1 : ByteArray) (o1 : Bool) (m1 : Int) (t1 : ByteArray) : eq8 k0 p0 l0 n0 d0 o0 m0 t0 k1 p1 l1 n1 d1 o1 m1 t1 = true ↔ (⟨k0, p0, l0, n0.data.toList, d0.data.toList, o0, m0, t0.data.toList⟩ : Cm) = ⟨k1, p1, l1, n1.data.toList, d1.data.toList, o1, m1, t1.data.toList⟩ := by
  unfold eq8
  simp only [Bool.and_eq_true, beq_iff_eq, Lx.toL, Cm.mk.injEq, and_assoc]

end Go.Proofs.YtichbejmelkjeaaGreatDoor
