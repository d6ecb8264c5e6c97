import Derived.Lib.ConvBytes
import Derived.Lib.ItoaLen
import Derived.Lib.SmallJoins
import Derived.Laws.IdiomStrings
import Derived.Test.YtgncoeihlfcaiaaDoorShelf
import Derived.Test.YtgncoeihlfcaiaaDoorRefLine
namespace Go.Proofs.YtgncoeihlfcaiaaDoor
open Go.RowKit Go.Shelf

/-- c blanks. -/
def bl (c : Nat) : ByteArray := ⟨(List.replicate c 32).toArray⟩
theorem bl_size (c : Nat) : (bl c).size = c := by rw [Lib.size_eq]; simp [bl]
theorem bl_repeat (c : Nat) : (⟨(Lib.repeatL [32] c).toArray⟩ : ByteArray) = bl c := by
  have h : ∀ c, Lib.repeatL [32] c = List.replicate c 32 := by
    intro c
    induction c with
    | zero => rfl
    | succ c ih => rw [Lib.repeatL, ih, List.replicate_succ]; rfl
  unfold bl
  rw [h]

set_option maxHeartbeats 400000 in
theorem blanks_any (c : Nat) (n : Int) (b : ByteArray) (w : World) (hc : c ≤ 140737488355328) (hn : Hid (n = (c : Int))) (hb : Hid (b = bl c)) :
    Calls Tryd.prog 23 #[.int .i64 n] w fun e w' => e = .returned (.string b) ∧ Below w.heap.size w w' := by
  have h := Tryd.strings_Repeat ⟨#[32]⟩ c w (by omega) (by show 1 * c ≤ _; omega)
  change Calls Tryd.prog 28 #[.string ⟨#[32]⟩, .int .i64 (c : Int)] w fun e w' => e = .returned (.string ⟨(Lib.repeatL [32] c).toArray⟩) ∧ Below w.heap.size w w' at h
  rw [bl_repeat, ← hb.out, ← hn.out] at h
  have H : Hid (Calls Tryd.prog 28 #[.string ⟨#[32]⟩, .int .i64 n] w fun e w' => e = .returned (.string b) ∧ Below w.heap.size w w') := h
  clear h
  go_enter Tryd.func23, Tryd.ntmps23
  go_wp2_with (go_at_call 28; refine H.out.mono ?_; rintro e w1 ⟨rfl, hb1⟩)
  go_ret
  exact ⟨rfl, hb1⟩

/-- A byte as it is shown. -/
def sh (c : UInt8) : UInt8 := if c = 9 then 32 else if c.toNat < 32 ∨ 126 < c.toNat then 46 else c
def shB (b : ByteArray) : ByteArray := ⟨(b.data.toList.map sh).toArray⟩
theorem shB_size (b : ByteArray) : (shB b).size = b.size := by rw [Lib.size_eq, Lib.size_eq]; simp [shB]

/-- What the row holds when k bytes have been gone through. -/
def shK (s : ByteArray) (k j : Nat) : Int := if j < k then ((sh (s.data.toList.getD j 0)).toNat : Int) else ((s.data.toList.getD j 0).toNat : Int)

theorem below_bytes (w : World) (s : ByteArray) : Below w.heap.size w (Lib.bytesWorld w 5 s) :=
  ⟨rfl, rfl, rfl, by rw [Lib.bytesWorld_size]; omega, fun k hk => Lib.bytesWorld_at_old w 5 s k hk⟩
theorem bytes_frozen (w : World) (s : ByteArray) (j : Nat) (hj : j < s.size) : (Lib.bytesWorld w 5 s).frozen? ⟨w.heap.size, j, none⟩ = false := by
  have hsz : s.size ≤ (Lib.bytesCells w 5 s).size := by
    unfold Lib.bytesCells
    rw [Array.size_append, Array.size_map]
    exact Nat.le_add_right _ _
  simp only [World.frozen?, Lib.bytesWorld_at_new]
  simp
  omega

theorem shK_set {W : World} {B : Nat} {s : ByteArray} {k : Nat} (hk : k < s.size) (hc : ∀ j, j < s.size → W.cell? ⟨B, j, none⟩ = some (.int .u8 (shK s k j))) :
    (∀ v : Int, v = ((sh (s.data.toList.getD k 0)).toNat : Int) → ∀ j, j < s.size → (W.setCell ⟨B, k, none⟩ (.int .u8 v)).cell? ⟨B, j, none⟩ = some (.int .u8 (shK s (k + 1) j))) ∧
    (((s.data.toList.getD k 0).toNat : Int) = ((sh (s.data.toList.getD k 0)).toNat : Int) → ∀ j, j < s.size → W.cell? ⟨B, j, none⟩ = some (.int .u8 (shK s (k + 1) j))) := by
  have hother : ∀ j, j ≠ k → shK s (k + 1) j = shK s k j := by
    intro j hj
    unfold shK
    by_cases h : j < k
    · rw [if_pos h, if_pos (by omega)]
    · rw [if_neg h, if_neg (by omega)]
  have hself : shK s (k + 1) k = ((sh (s.data.toList.getD k 0)).toNat : Int) := if_pos (by omega)
  refine ⟨fun v hv j hj => ?_, fun hv j hj => ?_⟩
  · by_cases h : j = k
    · subst h
      rw [hself, ← hv]
      exact World.cell?_setCell_same' _ _ _ (by rw [hc j hj]; rfl)
    · rw [World.cell?_setCell_other _ _ _ _ (fun e => h (by cases e; rfl)), hc j hj, hother j h]
  · by_cases h : j = k
    · subst h
      rw [hc j hj, hself, ← hv]
      unfold shK
      rw [if_neg (by omega)]
    · rw [hc j hj, hother j h]

set_option maxRecDepth 100000 in
set_option maxHeartbeats 1000000 in
theorem shown_any (s b : ByteArray) (w : World) (hs : s.size ≤ 140737488355328) (hb : Hid (b = shB s)) :
    Calls Tryd.prog 24 #[.string s] w fun e w' => e = .returned (.string b) ∧ Below w.heap.size w w' := by
  have hcv := Lib.run_convert_string_bytes (P := Tryd.prog) w 9 52 5 s Tryd.underlying9 Tryd.underlying52 Tryd.underlying5
  have hB0 := below_bytes w s
  have hcell := Lib.bytesWorld_cell w 5 s
  have hfz := bytes_frozen w s
  have HC : Hid (∀ j, j < s.size → (Lib.bytesWorld w 5 s).cell? ⟨w.heap.size, j, none⟩ = some (.int .u8 (s.data.toList.getD j 0).toNat)) := hcell
  have HF : Hid (∀ j, j < s.size → (Lib.bytesWorld w 5 s).frozen? ⟨w.heap.size, j, none⟩ = false) := hfz
  clear hcell hfz
  generalize Lib.bytesWorld w 5 s = X at hcv hB0 HC HF
  generalize grownCap w s.size 0 5 = cp at hcv
  go_enter Tryd.func24, Tryd.ntmps24
  go_wp2
  clear hcv
  go_loopw [10] (fun i wr => ∃ k : Nat, k ≤ s.size ∧ i = .int .i64 (k : Int) ∧ Hid (∀ j, j < s.size → wr.cell? ⟨w.heap.size, j, none⟩ = some (.int .u8 (shK s k j))) ∧ Hid (∀ j, j < s.size → wr.frozen? ⟨w.heap.size, j, none⟩ = false) ∧ Below w.heap.size w wr) (fun i _ => s.size - (intOf i).toNat)
  case atStart => exact ⟨0, Nat.zero_le _, rfl, fun j hj => HC.out j hj, HF.out, hB0⟩
  case round =>
    clear HC HF hB0
    obtain ⟨k, hk, rfl, hc, hf, hB⟩ := hrel
    by_cases hlt : k < s.size
    · have hck := hc.out k hlt
      have hfk := hf.out k hlt
      have e0 : shK s k k = ((s.data.toList.getD k 0).toNat : Int) := if_neg (by omega)
      rw [e0] at hck
      have hset := shK_set hlt hc.out
      obtain ⟨c, hcc⟩ : ∃ c : UInt8, s.data.toList.getD k 0 = c := ⟨_, rfl⟩
      rw [hcc] at hck hset
      clear e0 hcc
      have HSet : Hid ((∀ v : Int, v = ((sh c).toNat : Int) → ∀ j, j < s.size → (wr.setCell ⟨w.heap.size, k, none⟩ (.int .u8 v)).cell? ⟨w.heap.size, j, none⟩ = some (.int .u8 (shK s (k + 1) j))) ∧
        (((c.toNat : Nat) : Int) = ((sh c).toNat : Int) → ∀ j, j < s.size → wr.cell? ⟨w.heap.size, j, none⟩ = some (.int .u8 (shK s (k + 1) j)))) := hset
      clear hset hc
      have hc9 := UInt8.toNat_lt c
      by_cases h9 : c = 9
      · subst h9
        go_wp2
        exact ⟨⟨k + 1, by omega, by go_num, HSet.out.1 32 rfl, fun j hj => by rw [World.frozen?_setCell]; exact hf.out j hj, hB.setCell (p := ⟨w.heap.size, k, none⟩) (Nat.le_refl _) _⟩, by simp [intOf]; omega⟩
      · have b9 : ((c.toNat : Int) == 9) = false := by
          rw [beq_eq_false_iff_ne]
          intro e
          exact h9 (UInt8.toNat_inj.1 (by show c.toNat = 9; omega))
        by_cases ho : (c.toNat : Int) < 32 ∨ 126 < (c.toNat : Int)
        · have e : sh c = 46 := by unfold sh; rw [if_neg h9, if_pos (by omega)]
          have HE : Hid (sh c = 46) := e
          clear e h9
          have ho2 : (c.toNat : Int) < 32 ∨ (¬ (c.toNat : Int) < 32 ∧ 126 < (c.toNat : Int)) := by omega
          clear ho
          rcases ho2 with h1 | ⟨h1, h2⟩
          all_goals
            go_wp2
            exact ⟨⟨k + 1, by omega, by go_num, HSet.out.1 46 (by rw [HE.out]; rfl), fun j hj => by rw [World.frozen?_setCell]; exact hf.out j hj, hB.setCell (p := ⟨w.heap.size, k, none⟩) (Nat.le_refl _) _⟩, by simp [intOf]; omega⟩
        · have e : sh c = c := by unfold sh; rw [if_neg h9, if_neg (by omega)]
          have HE : Hid (sh c = c) := e
          clear e h9
          have h1 : ¬ (c.toNat : Int) < 32 := by omega
          have h2 : ¬ 126 < (c.toNat : Int) := by omega
          clear ho
          go_wp2
          exact ⟨⟨k + 1, by omega, by go_num, HSet.out.2 (by rw [HE.out]), hf.out, hB⟩, by simp [intOf]; omega⟩
    · have hk2 : k = s.size := by omega
      subst hk2
      have hback := run_convert_bytes_back (P := Tryd.prog) wr 52 9 5 ⟨w.heap.size, 0, none⟩ cp (s.data.toList.map sh) Tryd.underlying52 Tryd.underlying5 Tryd.underlying9 (fun j hj => by
        rw [List.length_map, ← Lib.size_eq] at hj
        have h := hc.out j hj
        have e : shK s s.size j = (((s.data.toList.map sh)[j]'(by rw [List.length_map, ← Lib.size_eq]; exact hj)).toNat : Int) := by
          unfold shK
          rw [if_pos hj, List.getElem_map, List.getD_eq_getElem?_getD, List.getElem?_eq_getElem (by rw [← Lib.size_eq]; exact hj)]
          rfl
        rw [e] at h
        rw [show (⟨w.heap.size, 0, none⟩ : Addr).add j = ⟨w.heap.size, j, none⟩ from by simp [Addr.add]; omega]
        exact h)
      rw [List.length_map, ← Lib.size_eq, show (⟨(s.data.toList.map sh).toArray⟩ : ByteArray) = b from hb.out.symm] at hback
      clear hc hf
      go_wp2
      go_ret
      exact ⟨rfl, hB⟩

end Go.Proofs.YtgncoeihlfcaiaaDoor
