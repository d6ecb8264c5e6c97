import Derived.Test.YtdcioemjmmhbhaaDoorBook
namespace Go.Proofs.YtdcioemjmmhbhaaDoor
open Go.RowKit

theorem own_base {w : World} {B B' : Nat} {e : TypeId} {sz : Nat} {v : Value} {n : Nat} {xs : List Value} (h : w.ownsRow B e sz v n xs) (hB : B' ≤ B) : w.ownsRow B' e sz v n xs := by
  refine ⟨h.1, ?_⟩
  rcases h.2 with q | ⟨g, cap, cur, rfl, h1, h2⟩
  · exact .inl q
  · exact .inr ⟨g, cap, cur, rfl, by omega, h2⟩

theorem makes_fin {w Y Z w4 w5 : World} {B p m lim : Nat} {A : Hp} {F' G : Nat → Prop} {kind : Int} {n : Nat} {kv2 lv lv' v : Value} {Ls : List Value}
    (h1 : HeapOf Y p lim (A ++ [(kind, List.replicate n (kind, 0, e0))]) F') (h3 : ∀ b, F' b → ¬ G b) (h4 : ∀ b, F' b → B ≤ b) (B2 : Below B w Y) (hBY : B ≤ Y.heap.size) (k5 : Kp G Y Z) (g5 : ∀ b, (G b ∨ kv2.ownBlock = some b) → G b ∨ Y.heap.size ≤ b) (hGB : ∀ b, G b → B ≤ b)
    (h5 : BookAt Z m p A (A.map (·.1) ++ [kind]) (usedS A) kv2 lv Ls (fun b => G b ∨ kv2.ownBlock = some b)) (hm : G m) (hl : ∀ b, lv.ownBlock = some b → G b)
    (hb5 : Below Z.heap.size Z w4) (hv4 : w4.ownsRow Z.heap.size 37 3 v n (vcs (List.replicate n (kind, 0, e0)))) (C : Obj) (ho5 : w5.ownsRow 0 59 1 lv' (A.length + 1 + 1) ((.slice none 0 0 :: Ls) ++ [v])) (hg5 : (w4.alloc C).grownBy w5 lv.ownBlock) (hg6 : lv'.ownBlock = lv.ownBlock ∨ lv'.ownBlock = some (w4.alloc C).heap.size) :
    ((w5.setCell ⟨m, 2, none⟩ lv').cell? ⟨m, 3, none⟩ = some (.int .i64 (usedS A : Int)) ∧ (w5.setCell ⟨m, 2, none⟩ lv').frozen? ⟨m, 3, none⟩ = false) ∧
    St ((w5.setCell ⟨m, 2, none⟩ lv').setCell ⟨m, 3, none⟩ (.int .i64 ((usedS A : Int) + (n : Int) + 1))) B p m lim (A ++ [(kind, List.replicate n (kind, 0, e0))]) ∧ Below B w ((w5.setCell ⟨m, 2, none⟩ lv').setCell ⟨m, 3, none⟩ (.int .i64 ((usedS A : Int) + (n : Int) + 1))) := by
  have h6 := h5.next hb5
  have hz1 := k5.size
  have hz2 := hb5.size
  have hvn : ∀ g, v.ownBlock = some g → ¬ (G g ∨ kv2.ownBlock = some g) := fun g hg q => by
    have := own_ge hv4 g hg
    have := h5.glt g q
    omega
  have hrl : (List.replicate n (kind, (0 : Int), e0)).length = n := List.length_replicate
  have h7 := h6.setL (w3 := w5) (lv' := lv') v kind (List.replicate n (kind, 0, e0)) C (by rw [hrl]; exact own_base hv4 (Nat.zero_le _)) hvn ho5 hg5
  have kk : Kp G Y ((w5.setCell ⟨m, 2, none⟩ lv').setCell ⟨m, 3, none⟩ (.int .i64 ((usedS A : Int) + (n : Int) + 1))) :=
    (((((k5.next hb5).alloc C).grown hg5 (fun b hb => .inl (hl b hb))).setCell (p := ⟨m, 2, none⟩) (.inl hm) lv').setCell (p := ⟨m, 3, none⟩) (.inl hm) _)
  have h8 := h7.setU (usedS A + (n + 1))
  rw [show ((usedS A + (n + 1) : Nat) : Int) = (usedS A : Int) + (n : Int) + 1 by omega] at h8
  refine ⟨⟨h7.c3, h7.blk.unfrozen 3⟩, ⟨F', (fun b => ((G b ∨ kv2.ownBlock = some b) ∨ lv'.ownBlock = some b) ∨ v.ownBlock = some b), kv2, lv', Ls ++ [v], h1.kept kk h3, ?_, ?_, h4, ?_⟩, B2.trans (kk.below hGB hBY)⟩
  · rw [List.map_append, used_app, show usedS [(kind, List.replicate n (kind, (0 : Int), e0))] = n + 1 by simp [usedS]]
    exact h8
  · intro b hF hG
    have hlt := h1.flt b hF
    rcases hG with (q | q) | q
    · rcases g5 b q with r | r
      · exact h3 b hF r
      · omega
    · rcases hg6 with r | r
      · exact h3 b hF (hl b (r ▸ q))
      · rw [r] at q
        cases q
        simp at hlt
        omega
    · have := own_ge hv4 b q
      omega
  · intro b hG
    rcases hG with (q | q) | q
    · rcases g5 b q with r | r
      · exact hGB b r
      · omega
    · rcases hg6 with r | r
      · exact hGB b (hl b (r ▸ q))
      · rw [r] at q
        cases q
        simp
        omega
    · have := own_ge hv4 b q
      omega
end Go.Proofs.YtdcioemjmmhbhaaDoor
