import Derived.Test.YtichbejmelkjeaaDoorLxSpec
import Derived.Test.YtichbejmelkjeaaDoorShL
import Derived.Test.YtichbejmelkjeaaDoorLxKw
namespace Go.Proofs.YtichbejmelkjeaaDoor.Lx
open Go.RowKit

def sgCells : List Value := sgs.map fun s => Value.string s
theorem sgInfo : (Tryd.prog.info? 126).map (·.size) = some sgCells.length := by kernel_rfl
def sgAgg : Value := .agg sgCells.toArray
set_option maxRecDepth 100000 in
theorem sg_idx (k : Nat) (hk : k < 25) : ∀ w : World, (Instr.index 126 sgAgg (.int .i64 (k : Int))).run Tryd.prog w = .ok (.string (sgs.getD k ByteArray.empty)) w := by
  have h : k = 0 ∨ k = 1 ∨ k = 2 ∨ k = 3 ∨ k = 4 ∨ k = 5 ∨ k = 6 ∨ k = 7 ∨ k = 8 ∨ k = 9 ∨ k = 10 ∨ k = 11 ∨ k = 12 ∨ k = 13 ∨ k = 14 ∨ k = 15 ∨ k = 16 ∨ k = 17 ∨ k = 18 ∨ k = 19 ∨ k = 20 ∨ k = 21 ∨ k = 22 ∨ k = 23 ∨ k = 24 := by omega
  rcases h with rfl | rfl | rfl | rfl | rfl | rfl | rfl | rfl | rfl | rfl | rfl | rfl | rfl | rfl | rfl | rfl | rfl | rfl | rfl | rfl | rfl | rfl | rfl | rfl | rfl
  all_goals exact fun w => by kernel_rfl

/-- What the calls find in the package's tables. -/
structure Tabs (w : World) : Prop where
  kw : w.rangeAt 6 0 kwCells
  sg : w.rangeAt 5 0 sgCells
  e6 : ∃ te pe, w.cell? ⟨7, 0, none⟩ = some (.iface te pe)
  sz : 8 < w.heap.size
  e7 : ∃ te pe, w.cell? ⟨8, 0, none⟩ = some (.iface te pe)
theorem Tabs.size {w : World} (h : Tabs w) : 8 < w.heap.size := h.sz
theorem Tabs.below {w w' : World} {B : Nat} (h : Tabs w) (hb : Below B w w') (hB : 8 < B) : Tabs w' := by
  obtain ⟨t6, p6, h6⟩ := h.e6
  obtain ⟨t7, p7, h7⟩ := h.e7
  exact ⟨fun j v hv => (hb.cell (p := ⟨6, 0 + j, none⟩) (by show 6 < B; omega)).trans (h.kw j v hv), fun j v hv => (hb.cell (p := ⟨5, 0 + j, none⟩) (by show 5 < B; omega)).trans (h.sg j v hv),
    ⟨t6, p6, (hb.cell (p := ⟨7, 0, none⟩) (by show 7 < B; omega)).trans h6⟩, Nat.lt_of_lt_of_le h.sz hb.size, ⟨t7, p7, (hb.cell (p := ⟨8, 0, none⟩) (by show 8 < B; omega)).trans h7⟩⟩
theorem Tabs.next {w w' : World} (h : Tabs w) (hb : Below w.heap.size w w') : Tabs w' := h.below hb h.size

/-- The five cells of a token that is being made. -/
structure Five (w : World) (B : Nat) (a b c d e : Value) : Prop where
  c0 : w.cell? ⟨B, 0, none⟩ = some a
  c1 : w.cell? ⟨B, 1, none⟩ = some b
  c2 : w.cell? ⟨B, 2, none⟩ = some c
  c3 : w.cell? ⟨B, 3, none⟩ = some d
  c4 : w.cell? ⟨B, 4, none⟩ = some e
  f : ∀ j, j < 5 → w.frozen? ⟨B, j, none⟩ = false
theorem five_new (w : World) (a b c d e : Value) (t : TypeId) : Five (w.alloc (.cells #[a, b, c, d, e] t)) w.heap.size a b c d e := by
  have h := heap_alloc_new w (.cells #[a, b, c, d, e] t)
  refine ⟨?_, ?_, ?_, ?_, ?_, ?_⟩
  all_goals first | (simp only [World.cell?, h]; rfl) | skip
  intro j hj
  simp only [World.frozen?, h]
  simp
theorem Five.below {w w' : World} {B C : Nat} {a b c d e : Value} (h : Five w B a b c d e) (hb : Below C w w') (hB : B < C) : Five w' B a b c d e :=
  ⟨(hb.cell hB).trans h.c0, (hb.cell hB).trans h.c1, (hb.cell hB).trans h.c2, (hb.cell hB).trans h.c3, (hb.cell hB).trans h.c4, fun j hj => (hb.frozen hB).trans (h.f j hj)⟩

set_option maxHeartbeats 400000 in
theorem clone_any (s : ByteArray) (w : World) (hs : s.size ≤ 281474976710656) : Calls Tryd.prog 15 #[.string s] w fun e w' => e = .returned (.string s) ∧ Below w.heap.size w w' := by
  go_enter Tryd.func15, Tryd.ntmps15
  go_wp2_with (go_at_call 24; refine (Tryd.stringslite_Clone s w hs).mono ?_; rintro e w1 ⟨rfl, hb1⟩)
  go_ret
  exact ⟨rfl, hb1⟩

theorem ix_cmt (l : List UInt8) : (0 ≤ Lib.indexByte l 10 → (Lib.indexByte l 10) = (cmtS l : Int)) ∧ (¬ 0 ≤ Lib.indexByte l 10 → cmtS l = l.length) := by
  induction l with
  | nil => simp [Lib.indexByte, cmtS]
  | cons c l ih =>
    have hge := Lib.indexByte_ge l 10
    unfold Lib.indexByte cmtS
    by_cases hc : c = 10
    · subst hc; simp
    · have h1 : (c == 10) = false := by simpa using hc
      have h2 : (c != 10) = true := by simpa using hc
      rw [h1, List.takeWhile_cons, if_pos h2]
      by_cases hm : Lib.indexByte l 10 = -1
      · rw [hm] at ih ⊢
        have := ih.2 (by decide)
        unfold cmtS at this
        simp [this]
      · have h3 : (Lib.indexByte l 10 == -1) = false := by simpa using hm
        have := ih.1 (by omega)
        unfold cmtS at this
        simp only [h3, List.length_cons]
        refine ⟨fun _ => ?_, fun h => ?_⟩
        · simp; omega
        · simp at h; omega
theorem cmt_le (l : List UInt8) : cmtS l ≤ l.length := by unfold cmtS; exact (List.takeWhile_sublist _).length_le

set_option maxHeartbeats 400000 in
theorem comment_any (t : ByteArray) (k : Nat) (w : World) (ht : t.size ≤ 140737488355328) (hk : k ≤ t.size) :
    Calls Tryd.prog 52 #[.string t, .int .i64 (k : Int)] w fun e w' => e = .returned (.int .i64 ((k + cmtS (t.data.toList.drop k) : Nat) : Int)) ∧ w = w' := by
  have c1 : (0 : Int) ≤ ↑k := by omega
  have c2 : (↑k : Int) ≤ ↑t.size := by omega
  have hx : (t.extract k t.size).data.toList = t.data.toList.drop k := by rw [Lib.extract_data, List.take_of_length_le (by rw [List.length_drop, ← Lib.size_eq]; omega)]
  have hix := ix_cmt (t.data.toList.drop k)
  have hle := cmt_le (t.data.toList.drop k)
  rw [List.length_drop, ← Lib.size_eq] at hix hle
  have HI := Tryd.strings_IndexByte (t.extract k t.size) 10 w
  rw [hx, show ((10 : Int).toNat.toUInt8) = 10 from rfl] at HI
  clear hx
  generalize Lib.indexByte (t.data.toList.drop k) 10 = i at hix HI
  generalize cmtS (t.data.toList.drop k) = m at hix hle
  have HI' : Hid (Calls Tryd.prog 57 #[.string (t.extract k t.size), .int .u8 10] w fun e w' => e = .returned (.int .i64 i) ∧ w' = w) := HI
  clear HI
  by_cases hi : 0 ≤ i
  · have e := hix.1 hi
    subst e
    clear hix
    go_enter Tryd.func52, Tryd.ntmps52
    go_wp2_with (go_at_call 57; refine HI'.out.mono ?_; rintro e _ ⟨rfl, rfl⟩)
    go_ret
    exact ⟨by go_num, rfl⟩
  · have e := hix.2 hi
    clear hix
    go_enter Tryd.func52, Tryd.ntmps52
    go_wp2_with (go_at_call 57; refine HI'.out.mono ?_; rintro e _ ⟨rfl, rfl⟩)
    go_ret
    exact ⟨by rw [show ((k + m : Nat) : Int) = (t.size : Int) from by omega]; rfl, rfl⟩
end Go.Proofs.YtichbejmelkjeaaDoor.Lx
