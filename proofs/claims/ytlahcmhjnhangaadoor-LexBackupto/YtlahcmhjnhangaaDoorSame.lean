import Derived.BigQuiet
import Derived.Test.YtlahcmhjnhangaaDoorRScan
namespace Go.Proofs.YtlahcmhjnhangaaDoor
open Go.RowKit Go.Shelf

/-- The slice v holds these tokens. -/
def Reads (w : World) (v : Value) (l : List (Nat × Tk)) : Prop :=
  (v = .slice none 0 0 ∧ l = []) ∨ ∃ g cap, v = .slice (some ⟨g, 0, none⟩) l.length cap ∧ l.length ≤ cap ∧ g < w.heap.size ∧ ∀ j u, (toksV l)[j]? = some u → w.cell? ⟨g, j, none⟩ = some u
theorem reads_own {w : World} {base : Nat} {v : Value} {l : List (Nat × Tk)} (h : w.ownsRow base 35 5 v l.length (toksV l)) : Reads w v l := by
  by_cases hl : 0 < l.length
  · obtain ⟨g, cap, h1, h2, h3, h4, h5⟩ := toks_at h hl
    exact Or.inr ⟨g, cap, h1, h2, h4, h5⟩
  · have e : l = [] := List.eq_nil_of_length_eq_zero (by omega)
    subst e
    rcases h.2 with ⟨hv, _⟩ | ⟨g, cap, cur, hv, hb, hg, hrest⟩
    · exact Or.inl ⟨hv, rfl⟩
    · exact Or.inr ⟨g, cap, hv, by simp, own_lt h g (by rw [hv]; rfl), fun j u hu => by simp [toksV] at hu⟩

set_option maxRecDepth 100000 in
set_option maxHeartbeats 4000000 in
theorem same_any (a b : Value) (l : List (Nat × Tk)) (w : World) (hl : l.length ≤ 4194400) (ha : Reads w a l) (hb : Reads w b l) :
    Calls Tryd.prog 19 #[a, b] w fun e w' => e = .returned (.bool true) ∧ Below w.heap.size w w' := by
  obtain ⟨sa, ca, rfl⟩ : ∃ sa ca, a = .slice sa l.length ca := by
    rcases ha with ⟨rfl, rfl⟩ | ⟨g, cap, rfl, _⟩
    · exact ⟨_, _, rfl⟩
    · exact ⟨_, _, rfl⟩
  obtain ⟨sb, cb, rfl⟩ : ∃ sb cb, b = .slice sb l.length cb := by
    rcases hb with ⟨rfl, rfl⟩ | ⟨g, cap, rfl, _⟩
    · exact ⟨_, _, rfl⟩
    · exact ⟨_, _, rfl⟩
  have HA : Hid (0 < l.length → ∃ g, sa = some ⟨g, 0, none⟩ ∧ g < w.heap.size ∧ ∀ j u, (toksV l)[j]? = some u → w.cell? ⟨g, j, none⟩ = some u) := by
    intro h0
    rcases ha with ⟨_, rfl⟩ | ⟨g, cap, hv, _, h3, h4⟩
    · simp at h0
    · simp only [Value.slice.injEq] at hv
      exact ⟨g, hv.1, h3, h4⟩
  have HB : Hid (0 < l.length → ∃ g, sb = some ⟨g, 0, none⟩ ∧ g < w.heap.size ∧ ∀ j u, (toksV l)[j]? = some u → w.cell? ⟨g, j, none⟩ = some u) := by
    intro h0
    rcases hb with ⟨_, rfl⟩ | ⟨g, cap, hv, _, h3, h4⟩
    · simp at h0
    · simp only [Value.slice.injEq] at hv
      exact ⟨g, hv.1, h3, h4⟩
  clear ha hb
  go_enter Tryd.func19, Tryd.ntmps19
  go_wp2
  go_loopw [13] (fun i wr => ∃ n : Nat, n ≤ l.length ∧ i = .int .i64 (n : Int) ∧ Hid (Below w.heap.size w wr)) (fun i _ => l.length - (intOf i).toNat)
  case atStart => exact ⟨0, Nat.zero_le _, rfl, Below.refl _ _⟩
  case round =>
    obtain ⟨n, hn, rfl, hB⟩ := hrel
    by_cases hlt : n < l.length
    · obtain ⟨g, rfl, hg, hcg⟩ := HA.out (by omega)
      obtain ⟨h, rfl, hh, hch⟩ := HB.out (by omega)
      obtain ⟨⟨k, x⟩, hkx⟩ : ∃ p, l[n]? = some p := ⟨_, List.getElem?_eq_getElem hlt⟩
      have hc : ∀ i u, i < 5 → (tkCells k x)[i]? = some u → wr.cell? ⟨g, n * 5 + i, none⟩ = some u ∧ wr.cell? ⟨h, n * 5 + i, none⟩ = some u := fun i u hi hu =>
        ⟨(hB.out.cell (p := ⟨g, n * 5 + i, none⟩) hg).trans (hcg _ _ (by rw [toksV_get l n k x hkx i hi]; exact hu)), (hB.out.cell (p := ⟨h, n * 5 + i, none⟩) hh).trans (hch _ _ (by rw [toksV_get l n k x hkx i hi]; exact hu))⟩
      obtain ⟨S, hS⟩ : ∃ S, (⟨x.text.toArray⟩ : ByteArray) = S := ⟨_, rfl⟩
      obtain ⟨E, hE⟩ : ∃ E : Int, (k : Int) + (x.len : Int) = E := ⟨_, rfl⟩
      obtain ⟨a0, b0⟩ : wr.cell? ⟨g, n * 5, none⟩ = some (.int .i64 (x.kind : Int)) ∧ wr.cell? ⟨h, n * 5, none⟩ = some (.int .i64 (x.kind : Int)) := hc 0 _ (by omega) rfl
      obtain ⟨a1, b1⟩ := hc 1 _ (by omega) rfl
      obtain ⟨a2, b2⟩ := hc 2 _ (by omega) rfl
      obtain ⟨a3, b3⟩ := hc 3 _ (by omega) rfl
      obtain ⟨a4, b4⟩ := hc 4 _ (by omega) rfl
      rw [hS] at a3 b3
      rw [hE] at a2 b2
      have n0 : (0 : Int) ≤ (n : Int) := by omega
      have n1 : (n : Int) < (l.length : Int) := by omega
      clear hc hcg hch hkx hS hE
      go_wp2
      go_quiet (fail)
      have hY := below_drewN wr nq
      generalize wr.drewN nq = Y at hY ⊢
      clear a0 a1 a2 a3 a4 b0 b1 b2 b3 b4
      go_wp2
      exact ⟨⟨n + 1, by omega, by go_num, hB.out.trans (hY.mono hB.out.size)⟩, by simp [intOf]; omega⟩
    · obtain rfl : n = l.length := by omega
      go_wp2
      go_ret
      exact ⟨rfl, hB⟩
end Go.Proofs.YtlahcmhjnhangaaDoor
