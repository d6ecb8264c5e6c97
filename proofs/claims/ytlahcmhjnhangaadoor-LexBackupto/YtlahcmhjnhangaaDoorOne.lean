import Derived.Test.YtlahcmhjnhangaaDoorScan
namespace Go.Proofs.YtlahcmhjnhangaaDoor
open Go.RowKit

theorem scan_a : scanS 2 0 [97] = .inr [(0, ⟨1, 1, [97], 0⟩), (1, ⟨0, 0, [], 0⟩)] := by kernel_rfl

/-- A list of tokens, seen as a slice whose cells are known. -/
theorem toks_at {w : World} {base : Nat} {v : Value} {l : List (Nat × Tk)} (h : w.ownsRow base 35 5 v l.length (toksV l)) (hl : 0 < l.length) :
    ∃ g cap, v = .slice (some ⟨g, 0, none⟩) l.length cap ∧ l.length ≤ cap ∧ base ≤ g ∧ g < w.heap.size ∧ ∀ j u, (toksV l)[j]? = some u → w.cell? ⟨g, j, none⟩ = some u := by
  have hlt := own_lt h
  rcases h.2 with ⟨_, hn⟩ | ⟨g, cap, cur, rfl, hb, hg, hnc, hrest⟩
  · omega
  · refine ⟨g, cap, rfl, hnc, hb, hlt g rfl, fun j u hu => ?_⟩
    have := h.cells (g := g) rfl j u hu
    rwa [show (⟨g, 0, none⟩ : Addr).add j = ⟨g, j, none⟩ from by simp [Addr.add]; omega] at this

set_option maxRecDepth 100000 in
set_option maxHeartbeats 2000000 in
theorem one_any (w : World) (hT : Tabs w) : Calls Tryd.prog 13 #[] w fun e w' => e = .returned (.bool true) ∧ Below w.heap.size w w' := by
  have HC := scan_any ⟨#[97]⟩ w (by decide) hT
  have e : scanS ((⟨#[97]⟩ : ByteArray).size + 1) 0 (⟨#[97]⟩ : ByteArray).data.toList = .inr [(0, ⟨1, 1, [97], 0⟩), (1, ⟨0, 0, [], 0⟩)] := scan_a
  rw [e] at HC
  have HC' : Hid (Calls Tryd.prog 14 #[.string ⟨#[97]⟩] w fun e w' => ∃ v, e = .returned (.tuple #[v, .agg #[.int .i64 0, .int .i64 0]]) ∧ w'.ownsRow w.heap.size 35 5 v 2 (toksV [(0, ⟨1, 1, [97], 0⟩), (1, ⟨0, 0, [], 0⟩)]) ∧ Below w.heap.size w w') := HC
  clear HC e hT
  go_enter Tryd.func13, Tryd.ntmps13
  go_wp2_with (first
    | (go_at_call 14; refine HC'.out.mono ?_; rintro e w1 ⟨v, rfl, ho, hb⟩; obtain ⟨g, cap, rfl, hcap, hg0, hg1, hcell⟩ := toks_at (l := [(0, ⟨1, 1, [97], 0⟩), (1, ⟨0, 0, [], 0⟩)]) ho (by decide);
       have c0 := hcell 0 _ rfl; have c1 := hcell 1 _ rfl; have c2 := hcell 2 _ rfl; have c3 := hcell 3 _ rfl; have c4 := hcell 4 _ rfl; have c5 := hcell 5 _ rfl; have c6 := hcell 6 _ rfl; have c7 := hcell 7 _ rfl; have c8 := hcell 8 _ rfl; have c9 := hcell 9 _ rfl; clear hcell ho)
    | go_in)
  go_ret
  exact ⟨rfl, hb.alloc hb.size _⟩
end Go.Proofs.YtlahcmhjnhangaaDoor
