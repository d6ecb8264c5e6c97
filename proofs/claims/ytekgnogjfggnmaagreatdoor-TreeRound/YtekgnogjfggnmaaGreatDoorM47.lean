import Derived.Test.YtekgnogjfggnmaaGreatDoorM46
import Derived.Test.YtekgnogjfggnmaaGreatDoorM11
namespace Go.Proofs.YtekgnogjfggnmaaGreatDoor
open Go.RowKit Go.Shelf

/-! Load. -/

theorem readDump_all (s : ByteArray) (w : World) (T : TypeId) (p : Value) (h : RTab w T p) (hk : KwAt w) (m : Int) (hm : w.cell? ⟨4, 0, none⟩ = some (.int .i64 m)) :
    Calls Tryz.prog 19 #[.string s] w fun e w' => Hid (ReadPost w.heap.size T p (readS s.data.toList) e w') ∧ Below w.heap.size w w' := by
  by_cases hs : s.size ≤ 4194304
  · exact readDump_any s w T p h hk m hm hs
  · refine (readDump_big s w T p h.n (by omega)).mono ?_
    rintro e w' ⟨h1, h2⟩
    refine ⟨?_, h2⟩
    rw [cont_big _ (by rw [← Lib.size_eq]; omega)]
    exact h1

theorem own_slice {w : World} {b sz n : Nat} {t : TypeId} {v : Value} {xs : List Value} (h : w.ownsRow b t sz v n xs) : ∃ p c, v = .slice p n c := by
  rcases h.2 with ⟨rfl, hn⟩ | ⟨g, cap, cur, hv, _⟩
  · exact ⟨none, 0, by rw [hn]⟩
  · exact ⟨_, cap, hv⟩
theorem two_cells {w : World} {A : Nat} {x y : Value} (u v : Value) (cA : w.cell? ⟨A, 0, none⟩ = some x) (cB : w.cell? ⟨A + 1, 0, none⟩ = some y) :
    ((w.setCell ⟨A, 0, none⟩ u).setCell ⟨A + 1, 0, none⟩ v).cell? ⟨A, 0, none⟩ = some u ∧ ((w.setCell ⟨A, 0, none⟩ u).setCell ⟨A + 1, 0, none⟩ v).cell? ⟨A + 1, 0, none⟩ = some v := by
  constructor
  · rw [World.cell?_setCell_other _ _ _ _ (fun e => by injection e with e; omega)]
    exact World.cell?_setCell_same' _ _ _ (by rw [cA]; rfl)
  · exact World.cell?_setCell_same' _ _ _ (by rw [World.cell?_setCell_other _ _ _ _ (fun e => by injection e with e; omega), cB]; rfl)

/-- What Load answers. -/
def LoadPost (b : Nat) (R : Option (List Nd)) (e : Ending) (w' : World) : Prop :=
  match R with
  | none => e = .returned (.tuple #[.agg #[.slice none 0 0], .int .i64 31])
  | some L => ∃ v, e = .returned (.tuple #[.agg #[v], .int .i64 0]) ∧ w'.ownsRow b 42 9 v L.length (flat L)

set_option maxRecDepth 100000 in
set_option maxHeartbeats 1000000 in
theorem load_any (s : ByteArray) (w : World) (q : Addr) (h : RTab w 169 (.pointer (some q))) (hk : KwAt w) (m : Int) (hm : w.cell? ⟨4, 0, none⟩ = some (.int .i64 m)) :
    Calls Tryz.prog 9 #[.string s] w fun e w' => Hid (LoadPost w.heap.size (readS s.data.toList) e w') ∧ Below w.heap.size w w' := by
  have hw15 := h.size
  have hmf : ∀ (fn : Fn) (first cap : Array Value) (w : World), (Instr.makeFunc fn first cap).run Tryz.prog w = .ok (.func fn first cap) w := fun _ _ _ _ => rfl
  obtain ⟨w1, hw1⟩ : ∃ w1, (w.alloc (.cells #[.slice none 0 0] 24)).alloc (.cells #[.int .i64 0] 28) = w1 := ⟨_, rfl⟩
  have B1 : Hid (Below w.heap.size w w1) := by rw [← hw1]; exact ((Below.refl _ w).alloc (Nat.le_refl _) _).alloc (by simp) _
  have cA : w1.cell? ⟨w.heap.size, 0, none⟩ = some (.slice none 0 0) := by rw [← hw1, World.cell?_alloc_lt _ _ _ (by simp)]; exact cell_new _ _ _ _ _ rfl
  have cB : w1.cell? ⟨w.heap.size + 1, 0, none⟩ = some (.int .i64 0) := by
    rw [← hw1]
    have := cell_new (w.alloc (.cells #[.slice none 0 0] 24)) #[.int .i64 0] 28 0 _ rfl
    rwa [show (w.alloc (.cells #[.slice none 0 0] 24)).heap.size = w.heap.size + 1 by simp] at this
  have fA : w1.frozen? ⟨w.heap.size, 0, none⟩ = false := by
    rw [← hw1, ((Below.refl _ (w.alloc (.cells #[.slice none 0 0] 24))).alloc (Nat.le_refl _) _).frozen (p := ⟨w.heap.size, 0, none⟩) (by simp)]
    simp only [World.frozen?, heap_alloc_new w (.cells #[.slice none 0 0] 24)]
    simp
  have fB : w1.frozen? ⟨w.heap.size + 1, 0, none⟩ = false := by
    rw [← hw1]
    have hh := heap_alloc_new (w.alloc (.cells #[.slice none 0 0] 24)) (.cells #[.int .i64 0] 28)
    rw [show (w.alloc (.cells #[.slice none 0 0] 24)).heap.size = w.heap.size + 1 by simp] at hh
    simp only [World.frozen?, hh]
    simp
  have z1 : w.heap.size + 1 < w1.heap.size := by rw [← hw1]; simp
  have HD : Hid (Calls Tryz.prog 19 #[.string s] w1 fun e w' => Hid (ReadPost w1.heap.size 169 (.pointer (some q)) (readS s.data.toList) e w') ∧ Below w1.heap.size w1 w') := readDump_all s w1 _ _ (h.next B1.out) (hk.next B1.out) m ((B1.out.cell (p := ⟨4, 0, none⟩) (by show 4 < w.heap.size; omega)).trans hm)
  have HN : Hid (∀ w', Below w.heap.size w w' → w'.cell? ⟨0, 0, none⟩ = some (.iface 169 (.pointer (some q)))) := fun w' hb => h.n.next hb
  have HCL : Hid (∀ w', Below w1.heap.size w1 w' → w'.cell? ⟨w.heap.size, 0, none⟩ = some (.slice none 0 0) ∧ w'.cell? ⟨w.heap.size + 1, 0, none⟩ = some (.int .i64 0) ∧ w'.frozen? ⟨w.heap.size, 0, none⟩ = false ∧ w'.frozen? ⟨w.heap.size + 1, 0, none⟩ = false) := fun w' hb =>
    ⟨(hb.cell (p := ⟨w.heap.size, 0, none⟩) (by show w.heap.size < _; omega)).trans cA, (hb.cell (p := ⟨w.heap.size + 1, 0, none⟩) z1).trans cB, (hb.frozen (p := ⟨w.heap.size, 0, none⟩) (by show w.heap.size < _; omega)).trans fA, (hb.frozen (p := ⟨w.heap.size + 1, 0, none⟩) z1).trans fB⟩
  clear h hk hm cA cB fA fB
  cases hR : readS s.data.toList with
  | none =>
    rw [hR] at HD
    go_enter_defers Tryz.func9, Tryz.ntmps9
    go_wp2_with (first
      | (go_at_call 19; refine HD.out.mono ?_; rintro e w2 ⟨he, hb2⟩; obtain rfl : e = _ := he.out)
      | go_in)
    obtain ⟨c1, c2, f1, f2⟩ := HCL.out w2 hb2
    have b2 : Below w.heap.size w w2 := B1.out.trans (hb2.mono B1.out.size)
    refine leaves_cons (f := 18) (args := #[.pointer (some ⟨w.heap.size, 0, none⟩), .pointer (some ⟨w.heap.size + 1, 0, none⟩)]) (by simp) (by simp [go_sem]) ?_
    refine (catch_panicking w.heap.size (w.heap.size + 1) _ _ q w2 (HN.out w2 b2) c1 c2 f1 f2 (by omega)).mono ?_
    rintro e u' w'' ⟨rfl, rfl, rfl⟩
    obtain ⟨d1, d2⟩ := two_cells (.slice none 0 0) (.int .i64 31) c1 c2
    have b3 : Hid (LoadPost w.heap.size none (.returned (.tuple #[.agg #[.slice none 0 0], .int .i64 31])) ((w2.setCell ⟨w.heap.size, 0, none⟩ (.slice none 0 0)).setCell ⟨w.heap.size + 1, 0, none⟩ (.int .i64 31))) ∧ Below w.heap.size w ((w2.setCell ⟨w.heap.size, 0, none⟩ (.slice none 0 0)).setCell ⟨w.heap.size + 1, 0, none⟩ (.int .i64 31)) := ⟨(rfl : _ = _), (b2.setCell (p := ⟨w.heap.size, 0, none⟩) (Nat.le_refl _) _).setCell (p := ⟨w.heap.size + 1, 0, none⟩) (Nat.le_succ _) _⟩
    simp [Leaves, settle, results, Tryz.results9, go_sem, d1, d2]
    exact b3
  | some L =>
    rw [hR] at HD
    go_enter_defers Tryz.func9, Tryz.ntmps9
    go_wp2_with (first
      | (go_at_call 19; refine HD.out.mono ?_; rintro e w2 ⟨he, hb2⟩; obtain ⟨v, rfl, ho⟩ := he.out; obtain ⟨pv, cv, hv⟩ := own_slice ho; subst hv; obtain ⟨c1, c2, f1, f2⟩ := HCL.out w2 hb2)
      | go_in)
    have b2 : Below w.heap.size w w2 := B1.out.trans (hb2.mono B1.out.size)
    have b3 : Below w.heap.size w ((w2.setCell ⟨w.heap.size, 0, none⟩ (.slice pv L.length cv)).setCell ⟨w.heap.size + 1, 0, none⟩ (.int .i64 0)) := (b2.setCell (p := ⟨w.heap.size, 0, none⟩) (Nat.le_refl _) _).setCell (p := ⟨w.heap.size + 1, 0, none⟩) (Nat.le_succ _) _
    have o3 := Lx.own_base (b' := w.heap.size) (ownsRow_setCell_below (ownsRow_setCell_below ho (a := ⟨w.heap.size, 0, none⟩) (by show w.heap.size < _; omega) (.slice pv L.length cv)) (a := ⟨w.heap.size + 1, 0, none⟩) z1 (.int .i64 0)) (by omega)
    refine leaves_cons (f := 18) (args := #[.pointer (some ⟨w.heap.size, 0, none⟩), .pointer (some ⟨w.heap.size + 1, 0, none⟩)]) (by simp) (by simp [go_sem]) ?_
    refine (catch_idle w.heap.size (w.heap.size + 1) q _ (HN.out _ b3)).mono ?_
    rintro e u' w'' ⟨rfl, rfl, rfl⟩
    obtain ⟨d1, d2⟩ := two_cells (.slice pv L.length cv) (.int .i64 0) c1 c2
    have b4 : Hid (LoadPost w.heap.size (some L) (.returned (.tuple #[.agg #[.slice pv L.length cv], .int .i64 0])) ((w2.setCell ⟨w.heap.size, 0, none⟩ (.slice pv L.length cv)).setCell ⟨w.heap.size + 1, 0, none⟩ (.int .i64 0))) ∧ Below w.heap.size w ((w2.setCell ⟨w.heap.size, 0, none⟩ (.slice pv L.length cv)).setCell ⟨w.heap.size + 1, 0, none⟩ (.int .i64 0)) := ⟨⟨_, rfl, o3⟩, b3⟩
    simp [Leaves, settle, results, Tryz.results9, go_sem, d1, d2]
    exact b4
end Go.Proofs.YtekgnogjfggnmaaGreatDoor
