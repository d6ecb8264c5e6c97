import Derived.Test.YtichbejmelkjeaaDoorcPs
namespace Go.Proofs.YtichbejmelkjeaaDoor
open Go.RowKit

/-- Words that lie in memory. -/
structure WsA (w : World) (q : Option Addr) (cap : Nat) (ws : List (List UInt8)) : Prop where
  le : ws.length ≤ cap
  at_ : 0 < ws.length → ∃ g, q = some ⟨g, 0, none⟩ ∧ w.rangeAt g 0 (ws.map sV)
  sm : ∀ x ∈ ws, x.length ≤ 300
theorem WsA.next {w w' : World} {q : Option Addr} {cap : Nat} {ws : List (List UInt8)} (h : WsA w q cap ws) (hb : Below w.heap.size w w') : WsA w' q cap ws := by
  refine ⟨h.le, fun hl => ?_, h.sm⟩
  obtain ⟨g, hq, hr⟩ := h.at_ hl
  exact ⟨g, hq, fun j v hv => by have := hr j v hv; exact (hb.cell (p := ⟨g, 0 + j, none⟩) (World.block_lt_of_cell? w _ this)).trans this⟩
theorem WsA.cell {w : World} {g cap : Nat} {ws : List (List UInt8)} (h : WsA w (some ⟨g, 0, none⟩) cap ws) (j : Nat) (x : ByteArray) (hx : ws[j]? = some x.data.toList) : w.cell? ⟨g, j, none⟩ = some (.string x) := by
  have hl : 0 < ws.length := by have := (List.getElem?_eq_some_iff.1 hx).1; omega
  obtain ⟨g', hq, hr⟩ := h.at_ hl
  cases hq
  have := hr j (.string x) (by rw [List.getElem?_map, hx]; rfl)
  rwa [Nat.zero_add] at this

/-- What one tells. -/
def oneO (F : List UInt8 → Int × Bool) (ws : List (List UInt8)) : Int × Bool := match ws with | [_, w1] => F w1 | _ => (0, false)
theorem one_two (F : List UInt8 → Int × Bool) {ws : List (List UInt8)} (h : ws.length = 2) : ∃ a b, ws = [a, b] ∧ oneO F ws = F b := by
  match ws, h with
  | [a, b], _ => exact ⟨a, b, rfl, rfl⟩
theorem one_not (F : List UInt8 → Int × Bool) {ws : List (List UInt8)} (h : ws.length ≠ 2) : oneO F ws = (0, false) := by
  match ws, h with
  | [], _ => rfl
  | [_], _ => rfl
  | [_, _], h => exact absurd rfl h
  | _ :: _ :: _ :: _, _ => rfl

set_option maxRecDepth 100000 in
set_option maxHeartbeats 2000000 in
theorem one_any (F : List UInt8 → Int × Bool) (f : FuncId) (hf : f = 30 ∨ f = 31) (hF : ∀ (s : ByteArray) (w : World), s.size ≤ 300 → Tb w → Calls Tryd.prog f #[.string s] w fun e w' => e = .returned (.tuple #[.int .i64 (F s.data.toList).1, .bool (F s.data.toList).2]) ∧ Below w.heap.size w w')
    {q : Option Addr} {cap : Nat} {ws : List (List UInt8)} {w : World} (hA : WsA w q cap ws) (x : ByteArray) (hT : Tb w) :
    Calls Tryd.prog 29 #[.agg #[.slice q ws.length cap, .string x], .func (.func f) #[] #[]] w fun e w' => e = .returned (.tuple #[.int .i64 (oneO F ws).1, .bool (oneO F ws).2]) ∧ Below w.heap.size w w' := by
  obtain ⟨X, hX⟩ : ∃ X, w.alloc (.cells #[.slice q ws.length cap, .string x] 59) = X := ⟨_, rfl⟩
  have b1 : Below w.heap.size w X := by rw [← hX]; exact (Below.refl _ w).alloc (Nat.le_refl _) _
  have f1 : Full X w.heap.size 59 [.slice q ws.length cap, .string x] := by rw [← hX]; exact Full.new w _ _
  have c0 := (f1.cell 0 _ rfl).1
  have hAX := hA.next b1
  have hTX := hT.next b1
  by_cases h2 : ws.length = 2
  · obtain ⟨a, b, rfl, hF2⟩ := one_two F h2
    obtain ⟨g, rfl, -⟩ := hA.at_ (by simp)
    obtain ⟨y, hy⟩ : ∃ y : ByteArray, y.data.toList = b := ⟨⟨b.toArray⟩, rfl⟩
    have c1 : X.cell? ⟨g, 1, none⟩ = some (.string y) := hAX.cell 1 y (by simp [hy])
    have HC := hF y X (by rw [Lib.size_eq, hy]; exact hA.sm b (by simp)) hTX
    have hle := hA.le
    rw [hy, ← hF2] at HC
    generalize oneO F [a, b] = N at HC ⊢
    obtain ⟨n, fl⟩ := N
    simp only [List.length_cons, List.length_nil, Nat.zero_add, Nat.reduceAdd] at c0 hX hle ⊢
    clear hA hAX hTX hT f1 hF2 hy h2 hF
    rcases hf with rfl | rfl
    all_goals
      go_enter Tryd.func29, Tryd.ntmps29
      go_wp2_with fail
      refine HC.mono ?_
      rintro e w2 ⟨rfl, hb2⟩
      clear HC
      go_wp2
      go_ret2
      exact ⟨rfl, b1.trans (hb2.mono b1.size)⟩
  · have hN := one_not F h2
    rw [hN]
    have hl : ((ws.length : Int) == 2) = false := by rw [beq_eq_false_iff_ne]; omega
    clear hA hAX hTX hT f1 hN hF hf
    go_enter Tryd.func29, Tryd.ntmps29
    go_wp2
    go_ret2
    exact ⟨rfl, b1⟩
end Go.Proofs.YtichbejmelkjeaaDoor
