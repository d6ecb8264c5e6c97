import Derived.Test.YtnnglgolddhigaaDoorCut
import Derived.Test.YtnnglgolddhigaaDoorTab
import Derived.Deep.MidRow
namespace Go.Proofs.YtnnglgolddhigaaDoor
open Go.RowKit

def pls : List ByteArray := [⟨#[105, 110, 116]⟩, ⟨#[98, 111, 111, 108]⟩, ⟨#[116, 101, 120, 116]⟩]
def plCells : List Value := pls.map fun s => Value.string s
def plAgg : Value := .agg plCells.toArray
theorem gPl : Tryd.prog.globalNamed "retrace/types.plain" = some 0 := by kernel_rfl
theorem plInfo : (Tryd.prog.info? 27).map (·.size) = some plCells.length := by kernel_rfl
theorem pl_range {w : World} (h : StrIs Tryd.prog w "retrace/types.plain" pls) : w.rangeAt 0 0 plCells := by
  intro j v hv
  have hj : j < pls.length := by have := (List.getElem?_eq_some_iff.1 hv).1; simpa [plCells] using this
  rw [Nat.zero_add, h.cell gPl j hj]
  simp only [plCells, List.getElem?_map, List.getElem?_eq_getElem hj, Option.map_some, Option.some.injEq] at hv
  rw [← hv, List.getD_eq_getElem?_getD, List.getElem?_eq_getElem hj]
  rfl
theorem pl_idx (k : Nat) (hk : k < 3) : ∀ w : World, (Instr.index 27 plAgg (.int .i64 (k : Int))).run Tryd.prog w = .ok (.string (pls.getD k ByteArray.empty)) w := by
  have h : k = 0 ∨ k = 1 ∨ k = 2 := by omega
  rcases h with rfl | rfl | rfl
  all_goals exact fun w => by kernel_rfl

/-- Which plain type it is, by the table. -/
theorem base_at (t : ByteArray) (j : Nat) (hj : j < 3) (h : (t.toList == (pls.getD j ByteArray.empty).toList) = true) : baseN t = j + 1 := by
  have h := eq_of_beq h
  unfold baseN
  have hc : j = 0 ∨ j = 1 ∨ j = 2 := by omega
  rcases hc with rfl | rfl | rfl
  all_goals (rw [h, ByteArray.toList_eq]; decide)
theorem base_not (t : ByteArray) (h : ∀ j, j < 3 → (t.toList == (pls.getD j ByteArray.empty).toList) = false) : baseN t = 0 := by
  have h0 := h 0 (by omega)
  have h1 := h 1 (by omega)
  have h2 := h 2 (by omega)
  rw [beq_eq_false_iff_ne] at h0 h1 h2
  unfold baseN
  rw [if_neg (fun e => h0 (e.trans (by rw [ByteArray.toList_eq]; rfl))), if_neg (fun e => h1 (e.trans (by rw [ByteArray.toList_eq]; rfl))), if_neg (fun e => h2 (e.trans (by rw [ByteArray.toList_eq]; rfl)))]

theorem one_eq (t : ByteArray) (a : Nat) (c : UInt8) (h : a + 1 ≤ t.size) : ((t.extract a (a + 1)).toList == ByteArray.toList ⟨#[c]⟩) = (t.data.toList.getD a 0 == c) := by
  rw [ByteArray.toList_eq, ByteArray.toList_eq]
  have hl : a < t.data.toList.length := by rw [← Lib.size_eq]; omega
  have : (t.extract a (a + 1)).data.toList = [t.data.toList.getD a 0] := by
    rw [ByteArray.data_extract, Array.toList_extract]
    rw [List.extract_eq_take_drop, List.drop_eq_getElem_cons hl, List.getD_eq_getElem?_getD, List.getElem?_eq_getElem hl]
    simp
  rw [this]
  simp
theorem ext_size (t : ByteArray) : (t.extract 1 t.size).size = t.size - 1 := by simp
theorem brac_yes {t : ByteArray} (h : bracB t = true) : preB t ⟨#[91]⟩ = true ∧ sufB (t.extract 1 t.size) ⟨#[93]⟩ = true ∧ (t.extract 1 t.size).extract 0 ((t.extract 1 t.size).size - 1) = t.extract 1 (t.size - 1) := by
  have h2 := brac_size h
  unfold bracB at h
  simp only [Bool.and_eq_true, decide_eq_true_eq] at h
  obtain ⟨⟨_, h0⟩, h1⟩ := h
  have s1 : (ByteArray.mk #[91]).size = 1 := rfl
  have s2 : (ByteArray.mk #[93]).size = 1 := rfl
  refine ⟨?_, ?_, ?_⟩
  · unfold preB
    rw [s1]
    have := one_eq t 0 91 (by omega)
    rw [Nat.zero_add] at this
    rw [this, h0]
    simp; omega
  · unfold sufB
    rw [s2, ext_size t]
    have e : (t.extract 1 t.size).extract (t.size - 1 - 1) (t.size - 1) = t.extract (t.size - 1) (t.size - 1 + 1) := by
      rw [ByteArray.extract_extract]
      congr 1 <;> omega
    rw [e, one_eq t (t.size - 1) 93 (by omega), h1]
    simp; omega
  · rw [ext_size t, ByteArray.extract_extract]
    congr 1 <;> omega
theorem brac_no {t : ByteArray} (h : bracB t = false) (h1 : preB t ⟨#[91]⟩ = true) : sufB (t.extract 1 t.size) ⟨#[93]⟩ = false := by
  have s1 : (ByteArray.mk #[91]).size = 1 := rfl
  have s2 : (ByteArray.mk #[93]).size = 1 := rfl
  unfold preB at h1
  rw [s1, Bool.and_eq_true, decide_eq_true_eq] at h1
  obtain ⟨hz, h1⟩ := h1
  have e1 := one_eq t 0 91 (by omega)
  rw [Nat.zero_add, h1] at e1
  unfold sufB
  rw [s2, ext_size t]
  by_cases h2 : 2 ≤ t.size
  · have e : (t.extract 1 t.size).extract (t.size - 1 - 1) (t.size - 1) = t.extract (t.size - 1) (t.size - 1 + 1) := by
      rw [ByteArray.extract_extract]
      congr 1 <;> omega
    rw [e, one_eq t (t.size - 1) 93 (by omega)]
    unfold bracB at h
    rw [← e1] at h
    simp [h2] at h
    simp [h]
  · simp; omega

set_option maxRecDepth 100000 in
set_option maxHeartbeats 2000000 in
theorem sort_any (t0 : ByteArray) (w : World) (hs : t0.size ≤ 9223372036854775807) (hr : w.rangeAt 0 0 plCells) :
    Calls Tryd.prog 4 #[.string t0] w fun e w' => e = .returned (.int .i64 (sortR 0 t0 : Int)) ∧ w' = w := by
  obtain ⟨b, hb⟩ : ∃ b, sortR 0 t0 = b := ⟨_, rfl⟩
  have HB : Hid (sortR 0 t0 = b) := hb
  have HR : Hid (w.rangeAt 0 0 plCells) := hr
  rw [hb]
  clear hb hr
  go_enter Tryd.func4, Tryd.ntmps4
  go_wp2
  go_loop [0, 9] (fun v i => ∃ (t : ByteArray) (k : Nat), k ≤ 5 ∧ v = .string t ∧ i = .int .i64 (k : Int) ∧ t.size ≤ t0.size ∧ Hid (sortR k t = b)) (fun _ i => 5 - (intOf i).toNat)
  case atStart => exact ⟨t0, 0, by omega, rfl, rfl, Nat.le_refl _, HB⟩
  case round =>
    obtain ⟨t, k, hk, rfl, rfl, hts, ht⟩ := hrel
    clear HB
    by_cases hlt : k < 5
    · have hki : (k : Int) < 5 := by omega
      go_wp2_with (first | (refine wpList_load_mid (by rfl) 27 (.global 0) (by rfl) 0 0 (by rfl) plCells _ HR.out Tryd.underlying27 (by rfl) plInfo ?_) | go_in)
      go_loop [13] (fun i => ∃ j : Nat, j ≤ 3 ∧ i = .int .i64 (j : Int) ∧ Hid (∀ m, m < j → (t.toList == (pls.getD m ByteArray.empty).toList) = false)) (fun i => 3 - (intOf i).toNat)
      case atStart => exact ⟨0, by omega, rfl, fun j hj => by omega⟩
      case round =>
        obtain ⟨j, hj, rfl, hn⟩ := hrel
        by_cases hj3 : j < 3
        · have hi := pl_idx j hj3
          unfold plAgg at hi
          obtain ⟨x, hx⟩ : ∃ x, x = pls.getD j ByteArray.empty := ⟨_, rfl⟩
          rw [← hx] at hi
          have HX : Hid (x = pls.getD j ByteArray.empty) := hx
          clear hx
          go_wp2
          · have h1 : (t.toList == x.toList) = true := by assumption
            have hb1 : baseN t = j + 1 := base_at t j hj3 (by rw [← HX.out]; exact h1)
            have hb2 : b = 4 * k + (j + 1) := by rw [← ht.out, sort_base k t (by omega) (by omega), hb1]
            subst hb2
            go_ret
            refine ⟨?_, rfl⟩
            go_num
          · have h1 : (t.toList == x.toList) = false := by assumption
            refine ⟨⟨j + 1, by omega, by go_num, fun m hm => ?_⟩, by simp [intOf]; omega⟩
            by_cases hmj : m < j
            · exact hn.out m hmj
            · obtain rfl : m = j := by omega
              rw [← HX.out]
              exact h1
        · obtain rfl : j = 3 := by omega
          have hb0 : baseN t = 0 := base_not t hn.out
          clear hn
          have HB0 : Hid (baseN t = 0) := hb0
          clear hb0
          have hz1 : t.size ≤ 9223372036854775807 := by omega
          have hz2 : (t.extract 1 t.size).size ≤ 9223372036854775807 := by simp; omega
          cases hp : preB t ⟨#[91]⟩ with
          | false =>
            have hbr : bracB t = false := by
              cases hbb : bracB t with
              | false => rfl
              | true => rw [(brac_yes hbb).1] at hp; cases hp
            have hb2 : b = 0 := by rw [← ht.out]; exact sort_none k t HB0.out hbr
            subst hb2
            have C8 : Hid (∀ w, Calls Tryd.prog 8 #[.string t, .string ⟨#[91]⟩] w fun e w' => e = .returned (.tuple #[.string t, .bool false]) ∧ w' = w) := fun w => by have := cutPrefix_any t ⟨#[91]⟩ w; rw [hp] at this; exact this
            obtain ⟨y, hy⟩ : ∃ y, y = (if sufB t ⟨#[93]⟩ then t.extract 0 (t.size - (ByteArray.mk #[93]).size) else t) := ⟨_, rfl⟩
            have C9 : Hid (∀ w, Calls Tryd.prog 9 #[.string t, .string ⟨#[93]⟩] w fun e w' => e = .returned (.tuple #[.string y, .bool (sufB t ⟨#[93]⟩)]) ∧ w' = w) := fun w => by have := cutSuffix_any t ⟨#[93]⟩ w hz1; rw [← hy] at this; exact this
            clear hp hbr hy
            go_wp2_with (first
              | (go_at_call 8; refine (C8.out _).mono ?_; rintro e w1 ⟨rfl, hw⟩; rw [hw])
              | (go_at_call 9; refine (C9.out _).mono ?_; rintro e w1 ⟨rfl, hw⟩; rw [hw])
              | go_in)
            go_ret
            exact ⟨rfl, rfl⟩
          | true =>
            have C8 : Hid (∀ w, Calls Tryd.prog 8 #[.string t, .string ⟨#[91]⟩] w fun e w' => e = .returned (.tuple #[.string (t.extract 1 t.size), .bool true]) ∧ w' = w) := fun w => by have := cutPrefix_any t ⟨#[91]⟩ w; rw [hp] at this; exact this
            cases hbr : bracB t with
            | false =>
              have hb2 : b = 0 := by rw [← ht.out]; exact sort_none k t HB0.out hbr
              subst hb2
              have hsf := brac_no hbr hp
              have C9 : Hid (∀ w, Calls Tryd.prog 9 #[.string (t.extract 1 t.size), .string ⟨#[93]⟩] w fun e w' => e = .returned (.tuple #[.string (t.extract 1 t.size), .bool false]) ∧ w' = w) := fun w => by have := cutSuffix_any (t.extract 1 t.size) ⟨#[93]⟩ w hz2; rw [hsf] at this; exact this
              clear hp hbr hsf
              go_wp2_with (first
                | (go_at_call 8; refine (C8.out _).mono ?_; rintro e w1 ⟨rfl, hw⟩; rw [hw])
                | (go_at_call 9; refine (C9.out _).mono ?_; rintro e w1 ⟨rfl, hw⟩; rw [hw])
                | go_in)
              go_ret
              exact ⟨rfl, rfl⟩
            | true =>
              obtain ⟨_, hsf, hxx⟩ := brac_yes hbr
              have C9 : Hid (∀ w, Calls Tryd.prog 9 #[.string (t.extract 1 t.size), .string ⟨#[93]⟩] w fun e w' => e = .returned (.tuple #[.string (t.extract 1 (t.size - 1)), .bool true]) ∧ w' = w) := fun w => by
                have := cutSuffix_any (t.extract 1 t.size) ⟨#[93]⟩ w hz2
                rw [hsf, if_pos rfl, show (ByteArray.mk #[93]).size = 1 from rfl, hxx] at this
                exact this
              have HT : Hid (sortR (k + 1) (t.extract 1 (t.size - 1)) = b) := (sort_go k t hbr).symm.trans ht.out
              have hz : (t.extract 1 (t.size - 1)).size ≤ t0.size := by simp; omega
              clear hp hbr hsf hxx ht
              go_wp2_with (first
                | (go_at_call 8; refine (C8.out _).mono ?_; rintro e w1 ⟨rfl, hw⟩; rw [hw])
                | (go_at_call 9; refine (C9.out _).mono ?_; rintro e w1 ⟨rfl, hw⟩; rw [hw])
                | go_in)
              exact ⟨⟨t.extract 1 (t.size - 1), k + 1, by omega, rfl, by go_num, hz, HT⟩, by simp [intOf]; omega⟩
    · obtain rfl : k = 5 := by omega
      have hb0 : b = 0 := by rw [← ht.out]; exact sort_big t.size 5 t (Nat.le_refl _) (Nat.le_refl _)
      subst hb0
      go_wp2
      go_ret
      exact ⟨rfl, rfl⟩
end Go.Proofs.YtnnglgolddhigaaDoor
