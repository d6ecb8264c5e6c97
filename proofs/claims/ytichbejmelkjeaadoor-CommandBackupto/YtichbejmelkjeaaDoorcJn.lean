import Derived.Test.YtichbejmelkjeaaDoorcLn
import Derived.Test.YtichbejmelkjeaaDoorShJ
namespace Go.Proofs.YtichbejmelkjeaaDoor
open Go.RowKit

theorem join_any (ws : List (List UInt8)) (w : World) (q : Option Addr) (cap : Nat) (h : (ws = [] ∧ q = none) ∨ ∃ G, q = some ⟨G, 0, none⟩ ∧ w.rangeAt G 0 (ws.map sV) ∧ ws.length ≤ cap ∧ G < w.heap.size) (hn : ws.length ≤ 10) (hlen : (Lib.join ws [32]).length ≤ 10000000000) :
    Calls Tryd.prog 13 #[.slice q ws.length cap, .string ⟨#[32]⟩] w fun e w' => ∃ s : ByteArray, e = .returned (.string s) ∧ s.data.toList = Lib.join ws [32] ∧ Below w.heap.size w w' := by
  rcases h with ⟨rfl, rfl⟩ | ⟨G, rfl, hr, hle, hG⟩
  · refine Calls.mono (Tryd.strings_Join_none none cap ⟨#[32]⟩ w) ?_
    rintro e w' ⟨rfl, rfl⟩
    exact ⟨_, rfl, rfl, Below.refl _ _⟩
  · obtain ⟨xs, hxs⟩ : ∃ xs : List ByteArray, xs.map (·.data.toList) = ws := ⟨ws.map fun l => ⟨l.toArray⟩, by rw [List.map_map]; exact (List.map_congr_left (fun _ _ => rfl)).trans (List.map_id ws)⟩
    have hl : ws.length = xs.length := by rw [← hxs, List.length_map]
    rw [hl]
    have HJ := Tryd.strings_Join G 0 cap xs ⟨#[32]⟩ w (fun j x hx => by
      have := hr j (.string x) (by rw [← hxs, List.map_map, List.getElem?_map, hx]; rfl)
      exact this) hG (by omega) (by omega) (by rw [hxs]; exact Nat.le_trans hlen (by decide))
    rw [hxs] at HJ
    refine Calls.mono HJ ?_
    rintro e w' ⟨rfl, hb⟩
    exact ⟨_, rfl, rfl, hb⟩
theorem wrS_few (c : Cm) : (wrS c).length ≤ 10 := by
  unfold wrS
  split
  · simp
  · rw [List.length_cons]
    split
    · unfold pwS; rw [List.length_cons]; by_cases h : c.cond = [] <;> simp [h]
    · split
      · simp
      · split <;> simp
end Go.Proofs.YtichbejmelkjeaaDoor
