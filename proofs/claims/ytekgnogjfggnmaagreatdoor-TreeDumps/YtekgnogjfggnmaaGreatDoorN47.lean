import Derived.Test.YtekgnogjfggnmaaGreatDoorN46
import Derived.Test.YtekgnogjfggnmaaGreatDoorN39
namespace Go.Proofs.YtekgnogjfggnmaaGreatDoor
open Go.RowKit Go.Shelf
theorem deep_any (w : World) (p : Option Addr) (n cap : Nat) (L : List Nd) (h : Reads w p n L) :
 Calls Tryz.prog 5 #[.agg #[.slice p n cap]] w fun e w' => AnyB e ∧ Below w.heap.size w w' := by
 obtain ⟨hf, rfl, hr⟩ := h
 by_cases hn : L.length ≤ 65536
 ·exact deep_small w p L.length cap hn
 ·obtain ⟨g, o, rfl, hl⟩ := hr (fun e => by rw [e] at hn; simp at hn)
  exact deep_big w g o cap L hf.len (by omega) hl
theorem one_tree : treeS nameS typeS [oneNd] = true := by decide
theorem rows_fine : ∀ {f : Nat} {t : List UInt8} {ps : List (Nd × Nat)}, t.length ≤ 4194304 → rowsS f t = some ps → ps.length ≤ t.length ∧ ∀ p ∈ ps, FineN p.1
 | f, [], ps, _, h => by
  have : ps = [] := by cases f <;> exact (Option.some.inj h).symm
  subst this
  exact ⟨Nat.le_refl _, fun p hp => by simp at hp⟩
 | 0, c :: t, ps, _, h => by cases h
 | f + 1, c :: t, ps, hl, h => by
  unfold rowsS at h
  obtain ⟨⟨a, b⟩, h1, h⟩ := Option.bind_eq_some_iff.1 h
  obtain ⟨⟨x, d⟩, h2, h⟩ := Option.bind_eq_some_iff.1 h
  obtain ⟨qs, h3, rfl⟩ := Option.map_eq_some_iff.1 h
  simp only at h2 h3
  have hc := cut_len h1
  obtain ⟨i1, i2⟩ := rows_fine (by omega) h3
  refine ⟨by rw [List.length_cons]; omega, fun p hp => ?_⟩
  rcases List.mem_cons.1 hp with rfl | hp
  ·exact line_fine (by omega) h2
  ·exact i2 p hp
theorem read_fine {t : List UInt8} {L : List Nd} (h : readS t = some L) : Fine L := by
 unfold readS at h
 split at h
 ·cases h
 ·obtain ⟨ps, h1, h⟩ := Option.bind_eq_some_iff.1 h
  split at h
  ·cases h
   obtain ⟨i1, i2⟩ := rows_fine (by omega) h1
   exact mkL_fine (by omega) i2
  ·cases h
theorem reads_own {w : World} {b : Nat} {p : Option Addr} {c : Nat} {L : List Nd} (h : w.ownsRow b 42 9 (.slice p L.length c) L.length (flat L)) (hf : Fine L) : Reads w p L.length L := by
 refine ⟨hf, rfl, fun hne => ?_⟩
 rcases h.2 with ⟨_, hn⟩ | ⟨g, cap, cur, hv, _⟩
 ·exact absurd (List.length_eq_zero_iff.1 hn) hne
 ·cases hv
  exact ⟨g, 0, rfl, (lay_of_own h).2.1⟩
end Go.Proofs.YtekgnogjfggnmaaGreatDoor
