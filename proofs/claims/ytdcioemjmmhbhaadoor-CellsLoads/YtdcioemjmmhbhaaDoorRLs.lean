import Derived.Test.YtdcioemjmmhbhaaDoorJe
import Derived.Test.YtdcioemjmmhbhaaDoorRCl
namespace Go.Proofs.YtdcioemjmmhbhaaDoor
open Go.RowKit

/-- The reference's heap and its list of puts while Load goes on. -/
structure LS (w wr : World) (lim : Nat) (v5 : Value) (P : List Dn) (A' : Hp) (N : Nat) (F' : Nat → Prop) : Prop where
  below : Below w.heap.size w wr
  row : wr.ownsRow 0 106 5 v5 P.length (P.flatMap dc)
  ref : RefOf wr w.heap.size lim A' N F'
  fF : ∀ x, F' x → w.heap.size ≤ x
  fR : ∀ g, v5.ownBlock = some g → w.heap.size ≤ g ∧ ¬ F' g
  ok : okH A' A'.length
  vals : ∀ d ∈ P, inR d.2.2.2.1 ∧ d.2.2.2.2.size ≤ 281474976710656
theorem LS.next {w wr W : World} {lim : Nat} {v5 : Value} {P : List Dn} {A' : Hp} {N : Nat} {F' : Nat → Prop} (h : LS w wr lim v5 P A' N F') (b : Below wr.heap.size wr W) : LS w W lim v5 P A' N F' :=
  ⟨below2 h.below b, own_same h.row fun g hg => b.block g (h.row.lt g hg).2, h.ref.next b, h.fF, h.fR, h.ok, h.vals⟩
theorem LS.turn {w wr W : World} {lim : Nat} {v5 : Value} {P : List Dn} {A' A2 : Hp} {N N2 : Nat} {F' F2 : Nat → Prop} (h : LS w wr lim v5 P A' N F') (k : Kp F' wr W) (hr : RefOf W w.heap.size lim A2 N2 F2) (hF : ∀ x, F2 x → F' x ∨ wr.heap.size ≤ x) (ho : okH A2 A2.length) : LS w W lim v5 P A2 N2 F2 where
  below := h.below.trans (k.below (fun x hx => h.fF x hx) h.below.size)
  row := own_same h.row fun g hg => k.block g (h.row.lt g hg).2 (h.fR g hg).2
  ref := hr
  fF x hx := by
    rcases hF x hx with q | q
    · exact h.fF x q
    · exact Nat.le_trans h.below.size q
  fR g hg := by
    refine ⟨(h.fR g hg).1, fun q => ?_⟩
    rcases hF g q with r | r
    · exact (h.fR g hg).2 r
    · have := (h.row.lt g hg).2
      omega
  ok := ho
  vals := h.vals
theorem LS.app {w wr W : World} {lim : Nat} {v5 v6 : Value} {P : List Dn} {A' : Hp} {N : Nat} {F' : Nat → Prop} (h : LS w wr lim v5 P A' N F') (o : Obj) (d : Dn) (hd : inR d.2.2.2.1 ∧ d.2.2.2.2.size ≤ 281474976710656) (ho : W.ownsRow 0 106 5 v6 (P.length + 1) (P.flatMap dc ++ dc d)) (hg : (wr.alloc o).grownBy W v5.ownBlock) (hv : v6.ownBlock = v5.ownBlock ∨ v6.ownBlock = some (wr.alloc o).heap.size) : LS w W lim v6 (P ++ [d]) A' N F' := by
  have k : Kp (fun x => v5.ownBlock = some x) wr W := ((Kp.refl _ wr).alloc o).grown hg (fun x e => .inl e)
  refine ⟨h.below.trans (k.below (fun x hx => (h.fR x hx).1) h.below.size), ?_, h.ref.kept k (fun x hx e => (h.fR x e).2 hx), h.fF, fun g hg' => ?_, h.ok, fun x hx => ?_⟩
  · rw [List.length_append, List.flatMap_append, show [d].flatMap dc = dc d by simp]
    exact ho
  · rcases hv with q | q
    · exact h.fR g (q ▸ hg')
    · rw [q] at hg'
      cases hg'
      have := h.below.size
      refine ⟨by simp; omega, fun r => ?_⟩
      have := h.ref.flt _ r
      simp at this
      omega
  · rcases List.mem_append.1 hx with q | q
    · exact h.vals x q
    · rw [List.mem_singleton.1 q]
      exact hd
/-- A put of the list. -/
theorem LS.at' {w wr : World} {lim : Nat} {v5 : Value} {P : List Dn} {A' : Hp} {N : Nat} {F' : Nat → Prop} (h : LS w wr lim v5 P A' N F') : ∃ q c, v5 = .slice q P.length c ∧ ∀ k (hk : k < P.length), ∃ g, q = some ⟨g, 0, none⟩ ∧ v5.ownBlock = some g ∧ wr.cell? ⟨g, k * 5, none⟩ = some (.int .i64 (P[k].1 : Int)) ∧ wr.cell? ⟨g, k * 5 + 1, none⟩ = some (.int .i64 (P[k].2.1 : Int)) ∧ wr.cell? ⟨g, k * 5 + 2, none⟩ = some (.int .i64 P[k].2.2.1) ∧ wr.cell? ⟨g, k * 5 + 3, none⟩ = some (.int .i64 P[k].2.2.2.1) ∧ wr.cell? ⟨g, k * 5 + 4, none⟩ = some (.string P[k].2.2.2.2) := by
  obtain ⟨q, c, e, _, hr⟩ := own_slice h.row
  refine ⟨q, c, e, fun k hk => ?_⟩
  obtain ⟨g, rfl, hg⟩ := hr (by omega)
  have key : ∀ j v, (dc P[k])[j]? = some v → wr.cell? ⟨g, k * 5 + j, none⟩ = some v := fun j v hv => by
    have hj : j < 5 := (List.getElem?_eq_some_iff.1 hv).1
    have := hg (k * 5 + j) v ((flat_at dc 5 (fun _ => rfl) P k j hk hj).trans hv)
    rw [Nat.zero_add] at this
    exact this
  exact ⟨g, rfl, by rw [e]; rfl, key 0 _ rfl, key 1 _ rfl, key 2 _ rfl, key 3 _ rfl, key 4 _ rfl⟩
theorem numR_one (b : ByteArray) (o : Nat) : 0 ≤ numR b o 1 ∧ numR b o 1 ≤ 255 := by
  have h1 := stepN_small b (o + 0) 0 (by decide) (by decide)
  have : numR b o 1 = stepN b (o + 0) 0 := rfl
  omega
theorem numR_u (b : ByteArray) (o : Nat) : ∀ k, 0 ≤ numR b o k ∧ numR b o k < 18446744073709551616
  | 0 => (show (0 : Int) ≤ 0 ∧ (0 : Int) < 18446744073709551616 by decide)
  | k + 1 => by
    rw [numR]
    unfold stepN
    simp only [IntKind.wrap_u64]
    split <;> omega
end Go.Proofs.YtdcioemjmmhbhaaDoor
