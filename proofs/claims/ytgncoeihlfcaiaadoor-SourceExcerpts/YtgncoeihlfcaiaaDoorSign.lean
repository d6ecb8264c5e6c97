import Derived.Deep.QuietTactic
import Derived.BigQuiet
import Derived.Laws.IdiomStrings
import Derived.Test.YtgncoeihlfcaiaaDoorRow
namespace Go.Proofs.YtgncoeihlfcaiaaDoor
open Go.RowKit Go.Shelf

/-- The mark of a place of a list. -/
def sgL (a b : Nat) : List UInt8 := [UInt8.ofNat a, UInt8.ofNat (a / 256), UInt8.ofNat (b % 256), UInt8.ofNat (b / 256 % 256), UInt8.ofNat (b / 65536), UInt8.ofNat (b / 16777216)]
def sg (a b : Nat) : ByteArray := ⟨(sgL a b).toArray⟩

theorem ofNat_int (x : Nat) (h : x < 256) : ((UInt8.ofNat x).toNat : Int) = (x : Int) := by
  rw [UInt8.toNat_ofNat', Nat.mod_eq_of_lt h]

theorem sg_fst {a b c d : Nat} (ha : a < 256) (hc : c < 256) (h : sg a b = sg c d) : a = c := by
  have h1 : (sg a b).data.toList = (sg c d).data.toList := by rw [h]
  have h2 : sgL a b = sgL c d := h1
  have h3 : UInt8.ofNat a = UInt8.ofNat c := by
    have := congrArg (fun l : List UInt8 => l.head?) h2
    simpa [sgL] using this
  have h4 := congrArg UInt8.toNat h3
  rw [UInt8.toNat_ofNat', UInt8.toNat_ofNat', Nat.mod_eq_of_lt ha, Nat.mod_eq_of_lt hc] at h4
  exact h4

theorem sign_conv (a b : Nat) (w : World) (ha : a < 256) (hb : b < 16777216) :
    (convert 52 9 (.slice (some ⟨w.heap.size, 0, none⟩) 6 6)).run Tryd.prog (w.alloc (.cells #[.int .u8 (a : Int), .int .u8 ((a : Int) / 256), .int .u8 ((b : Int) % 256), .int .u8 ((b : Int) / 256 % 256), .int .u8 ((b : Int) / 65536), .int .u8 ((b : Int) / 16777216)] 5)) =
      .ok (.string (sg a b)) (w.alloc (.cells #[.int .u8 (a : Int), .int .u8 ((a : Int) / 256), .int .u8 ((b : Int) % 256), .int .u8 ((b : Int) / 256 % 256), .int .u8 ((b : Int) / 65536), .int .u8 ((b : Int) / 16777216)] 5)) := by
  generalize hX : w.alloc (.cells #[.int .u8 (a : Int), .int .u8 ((a : Int) / 256), .int .u8 ((b : Int) % 256), .int .u8 ((b : Int) / 256 % 256), .int .u8 ((b : Int) / 65536), .int .u8 ((b : Int) / 16777216)] 5) = X
  have hh : X.heap[w.heap.size]? = some (.cells #[.int .u8 (a : Int), .int .u8 ((a : Int) / 256), .int .u8 ((b : Int) % 256), .int .u8 ((b : Int) / 256 % 256), .int .u8 ((b : Int) / 65536), .int .u8 ((b : Int) / 16777216)] 5 (0, 0)) := by rw [← hX]; exact World.alloc_heap_new w _
  have e0 := ofNat_int a ha
  have e1 := ofNat_int (a / 256) (by omega)
  have e2 := ofNat_int (b % 256) (by omega)
  have e3 := ofNat_int (b / 256 % 256) (by omega)
  have e4 := ofNat_int (b / 65536) (by omega)
  have e5 := ofNat_int (b / 16777216) (by omega)
  refine run_convert_bytes_back (P := Tryd.prog) X 52 9 5 ⟨w.heap.size, 0, none⟩ 6 (sgL a b) Tryd.underlying52 Tryd.underlying5 Tryd.underlying9 (fun j hj => ?_)
  have hadd : (⟨w.heap.size, 0, none⟩ : Addr).add j = ⟨w.heap.size, j, none⟩ := by simp [Addr.add]; omega
  rw [hadd]
  have hj6 : j < 6 := hj
  have hcases : j = 0 ∨ j = 1 ∨ j = 2 ∨ j = 3 ∨ j = 4 ∨ j = 5 := by omega
  rcases hcases with rfl | rfl | rfl | rfl | rfl | rfl
  · show _ = some (Value.int .u8 ((UInt8.ofNat a).toNat : Int)); rw [e0]; simp [World.cell?, hh]
  · show _ = some (Value.int .u8 ((UInt8.ofNat (a / 256)).toNat : Int)); rw [e1]; simp [World.cell?, hh]
  · show _ = some (Value.int .u8 ((UInt8.ofNat (b % 256)).toNat : Int)); rw [e2]; simp [World.cell?, hh]
  · show _ = some (Value.int .u8 ((UInt8.ofNat (b / 256 % 256)).toNat : Int)); rw [e3]; simp [World.cell?, hh]
  · show _ = some (Value.int .u8 ((UInt8.ofNat (b / 65536)).toNat : Int)); rw [e4]; simp [World.cell?, hh]
  · show _ = some (Value.int .u8 ((UInt8.ofNat (b / 16777216)).toNat : Int)); rw [e5]; simp [World.cell?, hh]

set_option maxRecDepth 100000 in
set_option maxHeartbeats 400000 in
theorem sign_any (a b : Nat) (w : World) (ha : a < 256) (hb : b < 16777216) :
    Calls Tryd.prog 19 #[.int .i64 (a : Int), .int .i64 (b : Int)] w fun e w' => e = .returned (.string (sg a b)) ∧ Below w.heap.size w w' := by
  have hcv := sign_conv a b w ha hb
  go_enter Tryd.func19, Tryd.ntmps19
  go_wp2
  go_ret
  exact ⟨rfl, (Below.refl _ w).alloc (Nat.le_refl _) _⟩

theorem sign_int (a b : Nat) (x y : Int) (w : World) (ha : a < 256) (hb : b < 16777216) (hx : Hid (x = (a : Int))) (hy : Hid (y = (b : Int))) :
    Calls Tryd.prog 19 #[.int .i64 x, .int .i64 y] w fun e w' => e = .returned (.string (sg a b)) ∧ Below w.heap.size w w' := by
  rw [hx.out, hy.out]
  exact sign_any a b w ha hb

/-- Texts as cells. -/
def tc (l : List ByteArray) : List Value := l.map Value.string

set_option maxRecDepth 100000 in
set_option maxHeartbeats 1000000 in
/-- sameTexts, of two lists that hold the same: each nil or owned. -/
theorem same_any (va vb : Value) (l : List ByteArray) (base : Nat) (w : World) (hl : l.length ≤ 16777216) (ha : w.ownsRow base 9 1 va l.length (tc l)) (hb : w.ownsRow base 9 1 vb l.length (tc l)) :
    Calls Tryd.prog 6 #[va, vb] w fun e w' => e = .returned (.bool true) ∧ ∃ n, w' = w.drewN n := by
  have cells : ∀ (g cap : Nat), w.ownsRow base 9 1 (.slice (some ⟨g, 0, none⟩) l.length cap) l.length (tc l) → ∀ j (h : j < l.length), w.cell? ⟨g, j, none⟩ = some (.string l[j]) := by
    intro g cap h j hj
    have := h.cellAt j (by omega)
    rw [this]
    simp [tc, hj]
  by_cases h0 : l.length = 0
  · obtain ⟨oa, ca, rfl⟩ : ∃ oa ca, va = .slice oa 0 ca := by
      rcases ha.2 with ⟨rfl, _⟩ | ⟨g, cap, _, rfl, _⟩
      · exact ⟨_, _, rfl⟩
      · rw [h0]; exact ⟨_, _, rfl⟩
    obtain ⟨ob, cb, rfl⟩ : ∃ oa ca, vb = .slice oa 0 ca := by
      rcases hb.2 with ⟨rfl, _⟩ | ⟨g, cap, _, rfl, _⟩
      · exact ⟨_, _, rfl⟩
      · rw [h0]; exact ⟨_, _, rfl⟩
    clear ha hb cells hl h0
    go_enter Tryd.func6, Tryd.ntmps6
    go_wp2
    go_loop [5] (fun i => i = .int .i64 0) (fun _ => 0)
    case atStart => rfl
    case round =>
      subst hrel
      go_wp2
      go_ret
      exact ⟨rfl, 0, rfl⟩
  · obtain ⟨ga, ca, rfl⟩ : ∃ g cap, va = .slice (some ⟨g, 0, none⟩) l.length cap := by
      rcases ha.2 with ⟨_, h⟩ | ⟨g, cap, _, rfl, _⟩
      · exact absurd h h0
      · exact ⟨_, _, rfl⟩
    obtain ⟨gb, cb, rfl⟩ : ∃ g cap, vb = .slice (some ⟨g, 0, none⟩) l.length cap := by
      rcases hb.2 with ⟨_, h⟩ | ⟨g, cap, _, rfl, _⟩
      · exact absurd h h0
      · exact ⟨_, _, rfl⟩
    have HA : Hid (∀ j (h : j < l.length), w.cell? ⟨ga, j, none⟩ = some (.string l[j])) := cells ga ca ha
    have HB : Hid (∀ j (h : j < l.length), w.cell? ⟨gb, j, none⟩ = some (.string l[j])) := cells gb cb hb
    clear ha hb cells h0
    go_enter Tryd.func6, Tryd.ntmps6
    go_wp2
    go_loopw [5] (fun i wr => ∃ k nq : Nat, k ≤ l.length ∧ i = .int .i64 (k : Int) ∧ wr = w.drewN nq) (fun i _ => l.length - (intOf i).toNat)
    case atStart => exact ⟨0, 0, Nat.zero_le _, rfl, rfl⟩
    case round =>
      obtain ⟨k, nq, hk, rfl, rfl⟩ := hrel
      by_cases hlt : k < l.length
      · have ca1 := HA.out k hlt
        have cb1 := HB.out k hlt
        have hlt1 : (k : Int) < (l.length : Int) := by omega
        generalize l[k] = x at ca1 cb1
        go_wp2_with fail
        go_quiet (fail)
        go_wp2
        go_roundw
        case rel => exact ⟨k + 1, _, by omega, by go_num, rfl⟩
        case measure => simp [intOf]; omega
      · go_wp2
        go_ret
        exact ⟨rfl, nq, rfl⟩

end Go.Proofs.YtgncoeihlfcaiaaDoor
