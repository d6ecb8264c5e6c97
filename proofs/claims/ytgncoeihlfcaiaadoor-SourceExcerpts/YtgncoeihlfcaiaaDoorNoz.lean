import Derived.Test.YtgncoeihlfcaiaaDoorExAny
namespace Go.Proofs.YtgncoeihlfcaiaaDoor
open Go.RowKit

theorem dec_noz : ∀ u : Nat, (0 : UInt8) ∉ Lib.decDigits u := by
  have key : ∀ x : Nat, x < 10 → (0 : UInt8) ≠ UInt8.ofNat (48 + x) := fun x hx e => by
    have := congrArg UInt8.toNat e
    rw [UInt8.toNat_ofNat'] at this
    simp at this
    omega
  intro u
  induction u using Nat.strongRecOn with
  | ind u ih =>
    rw [Lib.decDigits]
    split
    · rename_i h
      simp only [List.mem_singleton]
      exact key u h
    · simp only [List.mem_append, List.mem_singleton, not_or]
      exact ⟨ih (u / 10) (by omega), key _ (by omega)⟩

theorem mem_app (a b : ByteArray) (x : UInt8) : x ∈ (a ++ b).data.toList ↔ x ∈ a.data.toList ∨ x ∈ b.data.toList := by
  simp [ByteArray.data_append]

def Noz (r : ByteArray) : Prop := (0 : UInt8) ∉ r.data.toList
theorem Noz.app {a b : ByteArray} (ha : Noz a) (hb : Noz b) : Noz (a ++ b) := fun h => ((mem_app a b 0).1 h).elim ha hb
theorem bl_noz (c : Nat) : Noz (bl c) := fun h => by simp [bl] at h
theorem itB_noz (n : Nat) : Noz (itB (n : Int)) := fun h => by
  have h1 : (0 : UInt8) ∈ Lib.itoa (n : Int) := by simpa [itB] using h
  rw [Lib.itoa, if_neg (by omega), Int.toNat_natCast] at h1
  exact dec_noz n h1
theorem sh_noz (c : UInt8) : sh c ≠ 0 := by
  unfold sh
  split
  · decide
  · split
    · decide
    · rename_i h
      intro e
      rw [e] at h
      simp at h
theorem shB_noz (b : ByteArray) : Noz (shB b) := fun h => by
  have h1 : (0 : UInt8) ∈ b.data.toList.map sh := by simpa [shB] using h
  obtain ⟨c, _, hc⟩ := List.mem_map.1 h1
  exact sh_noz c hc
theorem rowB_noz (n width : Nat) (line : ByteArray) : Noz (rowB (n : Int) width line) := by
  have h1 : Noz ⟨#[32, 124]⟩ := by unfold Noz; decide
  have h2 : Noz ⟨#[32]⟩ := by unfold Noz; decide
  unfold rowB
  split
  · exact ((bl_noz _).app (itB_noz n)).app h1
  · exact ((((bl_noz _).app (itB_noz n)).app h1).app h2).app (shB_noz _)
theorem markB_noz (width C : Nat) : Noz (markB width C) := by
  have h1 : Noz ⟨#[32, 124, 32]⟩ := by unfold Noz; decide
  have h2 : Noz ⟨#[94]⟩ := by unfold Noz; decide
  unfold markB
  exact (((bl_noz _).app h1).app (bl_noz _)).app h2
theorem exS_noz (s : ByteArray) (at_ ar : Int) : ∀ r ∈ (exS s at_ ar).1, Noz r := by
  unfold exS
  split
  · simp
  · split
    · simp
    · intro r hr
      have hr' : r ∈ exR s at_.toNat ar.toNat := hr
      unfold exR accN at hr'
      obtain ⟨x, _, hx⟩ := List.mem_flatMap.1 hr'
      unfold blk at hx
      split at hx
      · simp at hx
      · rcases List.mem_cons.1 hx with rfl | hx
        · exact rowB_noz _ _ _
        · split at hx
          · rw [List.mem_singleton.1 hx]; exact markB_noz _ _
          · simp at hx
theorem sg_zero (c : Nat) : ¬ Noz (sg c 0) := fun h => h (by simp [sg, sgL])
theorem exS_sg (s : ByteArray) (at_ ar : Int) (c : Nat) : (tc (exS s at_ ar).1)[0]? ≠ some (.string (sg c 0)) := fun h => by
  unfold tc at h
  rw [List.getElem?_map] at h
  cases hx : (exS s at_ ar).1[0]? with
  | none => rw [hx] at h; simp at h
  | some r =>
    rw [hx] at h
    simp only [Option.map_some, Option.some.injEq, Value.string.injEq] at h
    exact sg_zero c (h ▸ exS_noz s at_ ar r (List.mem_of_getElem? hx))
end Go.Proofs.YtgncoeihlfcaiaaDoor
