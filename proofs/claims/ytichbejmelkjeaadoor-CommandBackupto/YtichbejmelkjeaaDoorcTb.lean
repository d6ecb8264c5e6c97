import Derived.Test.YtichbejmelkjeaaDoorcSpec
import Derived.Test.YtichbejmelkjeaaDoorShI
import Derived.Lib.LaidTab
namespace Go.Proofs.YtichbejmelkjeaaDoor
open Go.RowKit

def rwV (r : List UInt8 × Nat) : List Value := [.string ⟨r.1.toArray⟩, .int .i64 (r.2 : Int)]
def rwCells : List Value := rws.flatMap rwV
def rwAgg : Value := .agg rwCells.toArray
set_option maxRecDepth 100000 in
theorem rwInfo : (Tryd.prog.info? 75).map (·.size) = some rwCells.length := by kernel_rfl
set_option maxRecDepth 100000 in
theorem rw_idx (k : Nat) (hk : k < 23) : ∀ w : World, (Instr.index 75 rwAgg (.int .i64 (k : Int))).run Tryd.prog w = .ok (.agg #[.string ⟨(rws.getD k ([], 0)).1.toArray⟩, .int .i64 ((rws.getD k ([], 0)).2 : Int)]) w := by
  have h : k = 0 ∨ k = 1 ∨ k = 2 ∨ k = 3 ∨ k = 4 ∨ k = 5 ∨ k = 6 ∨ k = 7 ∨ k = 8 ∨ k = 9 ∨ k = 10 ∨ k = 11 ∨ k = 12 ∨ k = 13 ∨ k = 14 ∨ k = 15 ∨ k = 16 ∨ k = 17 ∨ k = 18 ∨ k = 19 ∨ k = 20 ∨ k = 21 ∨ k = 22 := by omega
  rcases h with rfl | rfl | rfl | rfl | rfl | rfl | rfl | rfl | rfl | rfl | rfl | rfl | rfl | rfl | rfl | rfl | rfl | rfl | rfl | rfl | rfl | rfl | rfl
  all_goals exact fun w => by kernel_rfl
theorem rw_at (k : Nat) (hk : k < 23) : rwCells[2 * k]? = some (.string ⟨(rws.getD k ([], 0)).1.toArray⟩) ∧ rwCells[2 * k + 1]? = some (.int .i64 (tks k : Int)) := by
  have h : k = 0 ∨ k = 1 ∨ k = 2 ∨ k = 3 ∨ k = 4 ∨ k = 5 ∨ k = 6 ∨ k = 7 ∨ k = 8 ∨ k = 9 ∨ k = 10 ∨ k = 11 ∨ k = 12 ∨ k = 13 ∨ k = 14 ∨ k = 15 ∨ k = 16 ∨ k = 17 ∨ k = 18 ∨ k = 19 ∨ k = 20 ∨ k = 21 ∨ k = 22 := by omega
  rcases h with rfl | rfl | rfl | rfl | rfl | rfl | rfl | rfl | rfl | rfl | rfl | rfl | rfl | rfl | rfl | rfl | rfl | rfl | rfl | rfl | rfl | rfl | rfl
  all_goals exact ⟨rfl, rfl⟩

def Tab10 (W : World) : Prop := Lib.TabIs Tryd.prog W "internal/strconv.uint64pow10" .u64 Lib.pow10Tab
theorem var_below {P : Program} {W W' : World} {n : String} {cs : Array Value} (h : W.var? P n = some cs) (hb : Below W.heap.size W W') : W'.var? P n = some cs := by
  unfold World.var? at h ⊢
  cases hg : P.globalNamed n with
  | none => simp [hg] at h
  | some g =>
    simp only [hg, Option.bind_some] at h ⊢
    have hlt : g < W.heap.size := by
      rcases Nat.lt_or_ge g W.heap.size with h' | h'
      · exact h'
      · simp [Array.getElem?_eq_none h'] at h
    rw [hb.block g hlt]
    exact h
theorem Tab10.next {W W' : World} (h : Tab10 W) (hb : Below W.heap.size W W') : Tab10 W' := var_below h hb

/-- What the package's calls find in the tables. -/
structure Tb (w : World) : Prop where
  lx : Lx.Tabs w
  rw : w.rangeAt 0 0 rwCells
  p10 : Tab10 w
theorem Tb.next {w w' : World} (h : Tb w) (hb : Below w.heap.size w w') : Tb w' :=
  ⟨h.lx.next hb, fun j v hv => (hb.cell (p := ⟨0, 0 + j, none⟩) (Nat.lt_of_le_of_lt (by show 0 ≤ 8; omega) h.lx.sz)).trans (h.rw j v hv), h.p10.next hb⟩
theorem Tb.word {w : World} (h : Tb w) (k : Nat) (hk : k < 23) : w.cell? ⟨0, k * 2, none⟩ = some (.string ⟨(rws.getD k ([], 0)).1.toArray⟩) := by
  have := h.rw (2 * k) _ (rw_at k hk).1
  rwa [Nat.zero_add, Nat.mul_comm] at this
theorem Tb.takes {w : World} (h : Tb w) (k : Nat) (hk : k < 23) : w.cell? ⟨0, k * 2 + 1, none⟩ = some (.int .i64 (tks k : Int)) := by
  have := h.rw (2 * k + 1) _ (rw_at k hk).2
  rwa [Nat.zero_add, Nat.mul_comm] at this

theorem knd_lt (l : List UInt8) : knd l < 23 := by
  unfold knd
  cases h : rws.findIdx? (fun r => r.1 == l) with
  | none => simp
  | some i => have := (List.findIdx?_eq_some_iff_findIdx_eq.1 h).1; exact this
theorem knd_hit (l : List UInt8) (k : Nat) (hk : k < 23) (hn : ∀ j, j < k → ((rws.getD j ([], 0)).1 == l) = false) (h : ((rws.getD k ([], 0)).1 == l) = true) : knd l = k := by
  unfold knd
  have hk' : k < rws.length := hk
  have e : rws.findIdx? (fun r => r.1 == l) = some k := by
    rw [List.findIdx?_eq_some_iff_getElem]
    refine ⟨hk', ?_, fun j hj => ?_⟩
    · rw [List.getD_eq_getElem?_getD, List.getElem?_eq_getElem hk'] at h; exact h
    · have := hn j hj
      rw [List.getD_eq_getElem?_getD, List.getElem?_eq_getElem (by omega)] at this
      simpa using this
  rw [e]; rfl
theorem knd_miss (l : List UInt8) (hn : ∀ j, j < 23 → ((rws.getD j ([], 0)).1 == l) = false) : knd l = 0 := by
  unfold knd
  have e : rws.findIdx? (fun r => r.1 == l) = none := by
    rw [List.findIdx?_eq_none_iff]
    intro x hx
    obtain ⟨j, hj, rfl⟩ := List.getElem_of_mem hx
    have := hn j hj
    rw [List.getD_eq_getElem?_getD, List.getElem?_eq_getElem hj] at this
    exact this
  rw [e]; rfl

set_option maxRecDepth 100000 in
set_option maxHeartbeats 1000000 in
theorem kindOf_any (s : ByteArray) (w : World) (hT : Tb w) :
    Calls Tryd.prog 27 #[.string s] w fun e w' => e = .returned (.int .i64 (knd s.data.toList : Int)) ∧ Below w.heap.size w w' := by
  have HR0 : Hid (w.rangeAt 0 0 rwCells) := hT.rw
  clear hT
  go_enter Tryd.func27, Tryd.ntmps27
  go_wp2_with (first | (refine wpList_load_mid (by rfl) 75 (.global 0) (by rfl) 0 0 (by rfl) rwCells _ HR0.out Tryd.underlying75 (by rfl) rwInfo ?_) | go_in)
  clear HR0
  go_loopw [6] (fun i wr => ∃ m : Nat, m ≤ 23 ∧ i = .int .i64 (m : Int) ∧ Hid (∀ j, j < m → ((rws.getD j ([], 0)).1 == s.data.toList) = false) ∧ Hid (Below w.heap.size w wr)) (fun i _ => 23 - (intOf i).toNat)
  case atStart => exact ⟨0, by omega, rfl, fun j hj => by omega, Below.refl _ _⟩
  case round =>
    obtain ⟨m, hm, rfl, hn, hB⟩ := hrel
    by_cases hlt : m < 23
    · have hi := rw_idx m hlt
      unfold rwAgg at hi
      obtain ⟨x, hx⟩ : ∃ x : ByteArray, x = ⟨(rws.getD m ([], 0)).1.toArray⟩ := ⟨_, rfl⟩
      have hxl : x.data.toList = (rws.getD m ([], 0)).1 := by rw [hx]
      rw [← hx] at hi
      obtain ⟨tt, htt⟩ : ∃ tt : Int, tt = ((rws.getD m ([], 0)).2 : Int) := ⟨_, rfl⟩
      rw [← htt] at hi
      have HX : Hid (x.data.toList = (rws.getD m ([], 0)).1) := hxl
      clear hx hxl htt
      by_cases hq : (x.toList == s.toList) = true
      · have HK : Hid (knd s.data.toList = m) := knd_hit _ m hlt hn.out (by rw [← HX.out]; exact Lx.toL_eq' hq)
        clear hn HX
        go_wp2
        go_ret
        exact ⟨by rw [HK.out]; rfl, hB.out.trans (((Below.refl _ wr).alloc (Nat.le_refl _) _).mono hB.out.size)⟩
      · have hqf : (x.toList == s.toList) = false := by simpa using hq
        have HN : Hid (∀ j, j < m + 1 → ((rws.getD j ([], 0)).1 == s.data.toList) = false) := by
          intro j hj
          by_cases hjm : j < m
          · exact hn.out j hjm
          · obtain rfl : j = m := by omega
            rw [← HX.out]
            exact Lx.toL_ne' hqf
        clear hn hq HX
        go_wp2
        exact ⟨⟨m + 1, by omega, by go_num, HN, hB.out.trans (((Below.refl _ wr).alloc (Nat.le_refl _) _).mono hB.out.size)⟩, by simp [intOf]; omega⟩
    · obtain rfl : m = 23 := by omega
      have HK : Hid (knd s.data.toList = 0) := knd_miss _ hn.out
      clear hn
      go_wp2
      go_ret
      exact ⟨by rw [HK.out]; rfl, hB.out⟩
end Go.Proofs.YtichbejmelkjeaaDoor
