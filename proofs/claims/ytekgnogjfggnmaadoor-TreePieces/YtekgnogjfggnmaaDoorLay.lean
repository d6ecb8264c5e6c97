import Derived.Test.YtekgnogjfggnmaaDoorFields
namespace Go.Proofs.YtekgnogjfggnmaaDoor
open Go.RowKit

/-- The nodes of a list lie in memory from an address on. -/
structure Lay (w : World) (g o : Nat) (L : List Nd) : Prop where
  lt : g < w.heap.size
  c : ∀ i, i < L.length → ∀ (j : Nat) (v : Value), (ndV (nd L i))[j]? = some v → w.cell? ⟨g, o + i * 9 + j, none⟩ = some v

theorem Lay.below {w w' : World} {g o B : Nat} {L : List Nd} (h : Lay w g o L) (hb : Below B w w') (hB : g < B) (hs : w.heap.size ≤ w'.heap.size) : Lay w' g o L :=
  ⟨Nat.lt_of_lt_of_le h.lt hs, fun i hi j v hv => (hb.cell (p := ⟨g, o + i * 9 + j, none⟩) hB).trans (h.c i hi j v hv)⟩
theorem Lay.next {w w' : World} {g o : Nat} {L : List Nd} (h : Lay w g o L) (hb : Below w.heap.size w w') : Lay w' g o L := h.below hb h.lt hb.size
theorem Lay.kind {w : World} {g o : Nat} {L : List Nd} (h : Lay w g o L) {i : Nat} (hi : i < L.length) : w.cell? ⟨g, o + i * 9, none⟩ = some (.int .i64 (nd L i).kind) := h.c i hi 0 _ rfl
theorem Lay.size {w : World} {g o : Nat} {L : List Nd} (h : Lay w g o L) {i : Nat} (hi : i < L.length) : w.cell? ⟨g, o + i * 9 + 8, none⟩ = some (.int .i64 (nd L i).size) := h.c i hi 8 _ rfl

theorem place_end (L : List Nd) : place L L.length = false := by unfold place; simp [plc]
theorem drop_nd (L : List Nd) (k : Nat) (h : k < L.length) : L.drop k = nd L k :: L.drop (k + 1) := by
  rw [List.drop_eq_getElem_cons h]
  simp [nd, h]
theorem place_go (L : List Nd) (k : Nat) (h : k < L.length) (hk : (nd L k).kind = 24) : place L k = place L (k + 1) := by
  unfold place
  rw [drop_nd L k h]
  show (if (nd L k).kind = 24 then _ else _) = _
  rw [if_pos hk]
theorem place_stop (L : List Nd) (k : Nat) (h : k < L.length) (hk : (nd L k).kind ≠ 24) : place L k = ((nd L k).kind == 23) := by
  unfold place
  rw [drop_nd L k h]
  show (if (nd L k).kind = 24 then _ else _) = _
  rw [if_neg hk]

set_option maxRecDepth 100000 in
set_option maxHeartbeats 1000000 in
theorem isPlace_any (w : World) (g o cap : Nat) (L : List Nd) (n : Nat) (hL : L.length ≤ 1353245080300) (hn : n ≤ L.length) (h : Hid (Lay w g o L)) :
    Calls Tryd.prog 85 #[.slice (some ⟨g, o, none⟩) L.length cap, .int .i64 (n : Int)] w fun e w' => e = .returned (.bool (place L n)) ∧ w = w' := by
  obtain ⟨b, hb⟩ : ∃ b, place L n = b := ⟨_, rfl⟩
  have HB : Hid (place L n = b) := hb
  rw [hb]
  clear hb
  have HS : Hid (Hid (Lay w g o L)) := h
  go_enter Tryd.func85, Tryd.ntmps85
  go_wp2
  go_loop [1] (fun v => ∃ k : Nat, k ≤ L.length ∧ v = .int .i64 (k : Int) ∧ Hid (place L k = b)) (fun v => L.length - (intOf v).toNat)
  case atStart => exact ⟨n, hn, rfl, HB⟩
  case round =>
    obtain ⟨k, hk, rfl, hp⟩ := hrel
    clear HB
    by_cases hlt : k < L.length
    · have i0 : (0 : Int) ≤ (k : Int) := by omega
      have i1 : (k : Int) < (L.length : Int) := by omega
      have d0 := HS.out.out.kind hlt
      by_cases h24 : (nd L k).kind = 24
      · have HP : Hid (place L (k + 1) = b) := (place_go L k hlt h24).symm.trans hp.out
        rw [h24] at d0
        clear hp
        go_wp2
        exact ⟨⟨k + 1, by omega, by go_num, HP⟩, by simp [intOf]; omega⟩
      · have HP : Hid (((nd L k).kind == 23) = b) := (place_stop L k hlt h24).symm.trans hp.out
        clear hp
        generalize (nd L k).kind = q at *
        have h24' : (q == 24) = false := by simpa using h24
        go_wp2
        all_goals rw [← HP.out]
        all_goals go_ret
        all_goals (refine ⟨?_, rfl⟩; simp_all)
    · obtain rfl : k = L.length := by omega
      have HP : Hid (b = false) := hp.out.symm.trans (place_end L)
      clear hp
      go_wp2
      rw [HP.out]
      go_ret
      exact ⟨rfl, rfl⟩

end Go.Proofs.YtekgnogjfggnmaaDoor
