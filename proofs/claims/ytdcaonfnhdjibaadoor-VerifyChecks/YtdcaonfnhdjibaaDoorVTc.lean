import Derived.Test.YtdcaonfnhdjibaaDoorVTb
import Derived.Test.YtdcaonfnhdjibaaDoorVDl
namespace Go.Proofs.YtdcaonfnhdjibaaDoor
open Go.RowKit

/-! What twin answers, as VerifyDead wants it. -/
theorem own_cut {w : World} {b : Nat} {e : TypeId} {sz g n cap : Nat} {xs ys : List Value} (h : w.ownsRow b e sz (.slice (some ⟨g, 0, none⟩) (n + 1) cap) (n + 1) (xs ++ ys)) (hx : xs.length = n * sz) : w.ownsRow b e sz (.slice (some ⟨g, 0, none⟩) n cap) n xs := by
  refine ⟨hx, ?_⟩
  rcases h.2 with ⟨q, -⟩ | ⟨g', cap', cur, hv, h1, h2, h3, h4, h5, h6⟩
  · cases q
  · cases hv
    refine .inr ⟨g, cap, cur, rfl, h1, h2, by omega, h4, h5, ?_⟩
    have e1 : cur.toList.take (n * sz) = (cur.toList.take ((n + 1) * sz)).take (n * sz) := by rw [List.take_take, Nat.min_eq_left (Nat.mul_le_mul_right _ (Nat.le_succ n))]
    rw [e1, h6, ← hx, List.take_left]
theorem row_keep {w' W : World} {b : Nat} {e : TypeId} {sz g n cap gi : Nat} {xs ys : List Value} (h : w'.ownsRow b e sz (.slice (some ⟨g, 0, none⟩) (n + 1) cap) (n + 1) (xs ++ ys)) (hx : xs.length = n * sz) (hne : g ≠ gi) (hk : ∀ k, k < w'.heap.size → k ≠ gi → W.heap[k]? = w'.heap[k]?) : Row W w'.heap.size (some ⟨g, 0, none⟩) n xs := fun h0 => by
  obtain ⟨q, cp, e1, -, hr⟩ := own_slice (own_cut h hx)
  cases e1
  obtain ⟨g', e2, hr⟩ := hr h0
  cases e2
  have hl := (own_blk h g rfl).lt
  exact ⟨g, 0, rfl, hl, range_same hr (hk g hl hne)⟩
theorem ec_len (L : List Em) : (L.flatMap ec).length = L.length * 5 := flat_lenF ec 5 (fun _ => rfl) L
/-- The code of a twin, whatever its instructions have become. -/
theorem TwF.cm {w w' : World} {B : Nat} {iq eq tq : Option Addr} {Es : List Em} {gi ci ge ce gt ct : Nat} {Es' : List Em} {c : Cd} (h : TwF w w' gi ci ge ce gt ct Es' c) (m : CodeM w B iq eq tq Es c) (W : World) (I : List In) (hI : I.length = c.ins.length) (hk : ∀ k, k < w'.heap.size → k ≠ gi → W.heap[k]? = w'.heap[k]?) (hr : Row W w'.heap.size (some ⟨gi, 0, none⟩) I.length (I.flatMap ic)) :
    CodeM W w'.heap.size (some ⟨gi, 0, none⟩) (some ⟨ge, 0, none⟩) (some ⟨gt, 0, none⟩) Es' { c with ins := I } := by
  have hne : ∀ {b e sz g n cap : Nat} {xs : List Value}, w'.ownsRow b e sz (.slice (some ⟨g, 0, none⟩) n cap) n xs → e ≠ 38 → g ≠ gi := fun o ht hg => own_ne h.ins (own_blk o _ rfl) ht (by rw [hg]; rfl)
  have hl : Es'.length = c.ens.length := by rw [← h.en, List.length_map]
  refine ⟨h.en, hr, row_keep h.ens (by rw [ec_len, hl]) (hne h.ens (by decide)) hk, row_keep h.txs (by unfold tv; rw [List.length_map, Nat.mul_one]) (hne h.txs (by decide)) hk, fun x hx => ?_, ?_, m.el, m.tl, m.ts⟩
  · obtain ⟨g, e, o⟩ := h.sr x hx
    have hx2 : x.1 ∈ Es.map (·.1) := by
      rw [m.en, ← h.en]
      exact List.mem_map_of_mem hx
    obtain ⟨y, hy, hy1⟩ := List.mem_map.1 hx2
    refine ⟨?_, ?_⟩
    · rw [e]
      exact row_keep o (by rw [sv_len, Nat.mul_one]) (hne o (by decide)) hk
    · have := (m.sr y hy).2
      rw [hy1] at this
      exact this
  · show I.length ≤ _
    rw [hI]
    exact m.il
theorem TwF.cp {w w' : World} {gi ci ge ce gt ct : Nat} {Es' : List Em} {c : Cd} (h : TwF w w' gi ci ge ce gt ct Es' c) : ∀ y ∈ Es', y.1.sorts.length ≤ y.2.2 ∧ (y.2.1 = none → y.1.sorts.length = 0) := fun y hy => by
  obtain ⟨g, e, o⟩ := h.sr y hy
  obtain ⟨q, cp, e1, hle, -⟩ := own_slice o
  cases e1
  exact ⟨by omega, fun q => by rw [e] at q; cases q⟩
theorem twC : TwC := fun w B iq eq tq ia ea ta Es c m hc hcp hB => by
  have hs : ∀ y ∈ Es, (y.1.sorts.length + 1) * 8 ≤ 140737488355328 := fun y hy => by
    have h1 : y.1 ∈ c.ens := by rw [← m.en]; exact List.mem_map_of_mem hy
    have h2 := (ent_ok.1 (hc.es _ h1)).sl
    omega
  refine (twin_any m ia ea ta hB (by have := hc.il; omega) (by have := hc.el; omega) (by have := hc.tl; omega) hs).mono ?_
  rintro z w' hz
  obtain ⟨gi, ci, ge, ce, gt, ct, Es', rfl, h⟩ := hz.out
  exact ⟨gi, ci, _, ce, _, ct, Es', rfl, h.b, own_cut h.ins (flat_lenF ic 3 (fun _ => rfl) _), fun W I hI hk hr => h.cm m W I hI hk hr, h.cp⟩
end Go.Proofs.YtdcaonfnhdjibaaDoor
