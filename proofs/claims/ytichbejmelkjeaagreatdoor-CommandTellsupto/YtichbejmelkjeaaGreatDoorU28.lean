import Derived.Test.YtichbejmelkjeaaGreatDoorU24
import Derived.Test.YtichbejmelkjeaaGreatDoorU22
import Derived.Test.YtichbejmelkjeaaGreatDoorU27
import Derived.Test.YtichbejmelkjeaaGreatDoorU26
import Derived.Test.YtichbejmelkjeaaGreatDoorU21
namespace Go.Proofs.YtichbejmelkjeaaGreatDoor
open Go.RowKit

theorem itoa_fix (n : Int) (w : World) (h0 : -9223372036854775808 ≤ n ∧ n ≤ 9223372036854775807) (ht : Tab10 w) :
    Calls Tryz.prog 17 #[.int .i64 n] w fun e w' => e = .returned (.string ⟨(Lib.itoa n).toArray⟩) ∧ Below w.heap.size w w' :=
  (itoa_any n w h0 ht).mono fun _ _ ⟨s, he, hs, hb⟩ => ⟨by rw [he]; congr 2; exact ByteArray.ext (Array.ext' hs), hb⟩
/-- An event's line. -/
def evS (k n : Int) (nm : List UInt8) (vk : Int) (sh : List UInt8) : List UInt8 :=
  if k < 1 ∨ 8 < k then [63] else evs.getD k.toNat [] ++ [32] ++ Lib.itoa n ++ (if k = 4 then [32] ++ nm else if k = 6 then (if vk = 0 then [] else [32, 61, 32] ++ sh) else if k = 7 ∨ k = 8 then [32] ++ nm ++ [32, 61, 32] ++ sh else [])
/-- What is known of an event. -/
def EvOk (n vk vn : Int) (nm vs : ByteArray) : Prop := (-9223372036854775808 ≤ n ∧ n ≤ 9223372036854775807) ∧ (-9223372036854775808 ≤ vn ∧ vn ≤ 9223372036854775807) ∧ nm.size ≤ 1000000000 ∧ vs.size ≤ 1000000000 ∧ (Vs.showS vk vn vs).size ≤ 10000
/-- What Event answers. -/
def EvP (k n vk vn : Int) (nm vs : ByteArray) (w : World) (e : Ending) (w' : World) : Prop := ∃ s : ByteArray, e = .returned (.string s) ∧ s.data.toList = evS k n nm.data.toList vk (Vs.showS vk vn vs).data.toList ∧ Below w.heap.size w w'
set_option maxRecDepth 100000 in
set_option maxHeartbeats 2000000 in
theorem event_1 (n vk vn : Int) (nm vs : ByteArray) (w : World) (hT : TW w) (hok : EvOk n vk vn nm vs) : Calls Tryz.prog 6 #[.agg #[.int .i64 1, .int .i64 n, .string nm, .int .i64 vk, .int .i64 vn, .string vs]] w (EvP 1 n vk vn nm vs w) := by
  obtain ⟨hn, hvn, hnm, hvs, hsh⟩ := hok
  have HR : Hid (evS 1 n nm.data.toList vk (Vs.showS vk vn vs).data.toList = evs.getD 1 [] ++ [32] ++ Lib.itoa n ++ ([])) := by show evS _ _ _ _ _ = _; unfold evS; rw [if_neg (by omega)]; rw [if_neg (by omega), if_neg (by omega), if_neg (by omega)]; rfl
  obtain ⟨X1, hX1⟩ : ∃ X1, w.alloc (.cells #[.int .i64 1, .int .i64 n, .string nm, .int .i64 vk, .int .i64 vn, .string vs] 27) = X1 := ⟨_, rfl⟩
  have B1 : Below w.heap.size w X1 := by rw [← hX1]; exact (Below.refl _ w).alloc (Nat.le_refl _) _
  have F1 : Full X1 w.heap.size 27 [.int .i64 1, .int .i64 n, .string nm, .int .i64 vk, .int .i64 vn, .string vs] := by rw [← hX1]; exact Full.new w _ _
  have e0 := (F1.cell 0 _ rfl).1
  have e1 := (F1.cell 1 _ rfl).1
  obtain ⟨x, hx⟩ : ∃ x : ByteArray, x = ⟨(evs.getD 1 []).toArray⟩ := ⟨_, rfl⟩
  have hi := (hT.next B1).ev 1 (by omega) (by omega)
  rw [← hx] at hi
  have HX : Hid (x.data.toList = evs.getD 1 []) := by show x.data.toList = _; rw [hx]
  obtain ⟨S, hS⟩ : ∃ S : ByteArray, S = ⟨(Lib.itoa n).toArray⟩ := ⟨_, rfl⟩
  have HS : Hid (S.data.toList = Lib.itoa n) := by show S.data.toList = _; rw [hS]
  have HI : Hid (∀ W, Below X1.heap.size X1 W → TW W ∧ Below w.heap.size w W ∧ Full W w.heap.size 27 [.int .i64 1, .int .i64 n, .string nm, .int .i64 vk, .int .i64 vn, .string vs]) := fun W h => ⟨hT.next (B1.trans (h.mono B1.size)), B1.trans (h.mono B1.size), F1.next h⟩
  have hxs : x.size ≤ 10 := by rw [Lib.size_eq, HX.out]; decide
  have hSs : S.size ≤ 60 := by have := Lib.itoa_length_le n hn.1 hn.2; rw [Lib.size_eq, HS.out]; omega
  obtain ⟨y1, hy1, hy1l, hy1s⟩ := cat_exR x ⟨#[32]⟩ (by show x.size + 1 ≤ _; omega)
  obtain ⟨y2, hy2, hy2l, hy2s⟩ := cat_exR y1 S (by rw [hy1s]; show x.size + 1 + S.size ≤ _; omega)
  have hys : y2.size ≤ 80 := by rw [hy2s, hy1s]; show x.size + 1 + S.size ≤ _; omega
  have HY : Hid (y2.data.toList = evs.getD 1 [] ++ [32] ++ Lib.itoa n) := by show y2.data.toList = _; rw [hy2l, hy1l, HX.out, HS.out]
  have i0 := cell_regrown e0
  have i1 := cell_regrown e1
  have ih := cell_regrown hi
  have d11 : ∀ d os, Calls Tryz.prog 17 #[.int .i64 n] (Sort.grow (redrawn X1 d) os) fun e w'' => e = .returned (.string S) ∧ ∃ p : Regrown, w'' = Sort.grow (redrawn X1 p.d) p.os := fun d os => by
    rw [hS]
    exact Calls.regrown_of (itoa_fix n _ hn (HI.out _ (below_regrown X1 d os)).1.p10)
  clear hx hS hxs hSs hy1l hy1s hy2l hy2s hT B1 F1 HX HS hn
  go_enter Tryz.func6, Tryz.ntmps6
  go_wp2_with fail
  clear e0 e1 hi
  refine wp_region_quiet_below (by kernel_rfl) (by kernel_rfl) ?_
  repeat (first | go_big_quiet_step (first | with_reducible exact d11 _ _) | quiet_step (first | with_reducible exact d11 _ _))
  refine wpQuiet_nil ?_
  intro _ hw'
  obtain ⟨⟨dq, osq⟩, hw''⟩ := hw'
  subst hw''
  have hY := below_regrown X1 dq osq
  first | (change Exit.then _ _ Exit.normal _ (Sort.grow (redrawn X1 dq) osq)) | skip
  generalize Sort.grow (redrawn X1 dq) osq = Y at hY ⊢
  clear i0 i1 ih d11
  obtain ⟨hTY, hBY, hFY⟩ := HI.out Y hY
  have e0 := (hFY.cell 0 _ rfl).1
  have e1 := (hFY.cell 1 _ rfl).1
  have e2 := (hFY.cell 2 _ rfl).1
  have e3 := (hFY.cell 3 _ rfl).1
  have e4 := (hFY.cell 4 _ rfl).1
  have e5 := (hFY.cell 5 _ rfl).1
  have HBY : Hid (Below w.heap.size w Y) := hBY
  clear hy1 hy2 hY HI hX1 hBY
  clear hTY hFY hsh hnm hvs hvn
  go_wp2
  go_ret
  exact ⟨_, rfl, by rw [HR.out, HY.out, List.append_nil], HBY.out⟩
set_option maxRecDepth 100000 in
set_option maxHeartbeats 2000000 in
theorem event_2 (n vk vn : Int) (nm vs : ByteArray) (w : World) (hT : TW w) (hok : EvOk n vk vn nm vs) : Calls Tryz.prog 6 #[.agg #[.int .i64 2, .int .i64 n, .string nm, .int .i64 vk, .int .i64 vn, .string vs]] w (EvP 2 n vk vn nm vs w) := by
  obtain ⟨hn, hvn, hnm, hvs, hsh⟩ := hok
  have HR : Hid (evS 2 n nm.data.toList vk (Vs.showS vk vn vs).data.toList = evs.getD 2 [] ++ [32] ++ Lib.itoa n ++ ([])) := by show evS _ _ _ _ _ = _; unfold evS; rw [if_neg (by omega)]; rw [if_neg (by omega), if_neg (by omega), if_neg (by omega)]; rfl
  obtain ⟨X1, hX1⟩ : ∃ X1, w.alloc (.cells #[.int .i64 2, .int .i64 n, .string nm, .int .i64 vk, .int .i64 vn, .string vs] 27) = X1 := ⟨_, rfl⟩
  have B1 : Below w.heap.size w X1 := by rw [← hX1]; exact (Below.refl _ w).alloc (Nat.le_refl _) _
  have F1 : Full X1 w.heap.size 27 [.int .i64 2, .int .i64 n, .string nm, .int .i64 vk, .int .i64 vn, .string vs] := by rw [← hX1]; exact Full.new w _ _
  have e0 := (F1.cell 0 _ rfl).1
  have e1 := (F1.cell 1 _ rfl).1
  obtain ⟨x, hx⟩ : ∃ x : ByteArray, x = ⟨(evs.getD 2 []).toArray⟩ := ⟨_, rfl⟩
  have hi := (hT.next B1).ev 2 (by omega) (by omega)
  rw [← hx] at hi
  have HX : Hid (x.data.toList = evs.getD 2 []) := by show x.data.toList = _; rw [hx]
  obtain ⟨S, hS⟩ : ∃ S : ByteArray, S = ⟨(Lib.itoa n).toArray⟩ := ⟨_, rfl⟩
  have HS : Hid (S.data.toList = Lib.itoa n) := by show S.data.toList = _; rw [hS]
  have HI : Hid (∀ W, Below X1.heap.size X1 W → TW W ∧ Below w.heap.size w W ∧ Full W w.heap.size 27 [.int .i64 2, .int .i64 n, .string nm, .int .i64 vk, .int .i64 vn, .string vs]) := fun W h => ⟨hT.next (B1.trans (h.mono B1.size)), B1.trans (h.mono B1.size), F1.next h⟩
  have hxs : x.size ≤ 10 := by rw [Lib.size_eq, HX.out]; decide
  have hSs : S.size ≤ 60 := by have := Lib.itoa_length_le n hn.1 hn.2; rw [Lib.size_eq, HS.out]; omega
  obtain ⟨y1, hy1, hy1l, hy1s⟩ := cat_exR x ⟨#[32]⟩ (by show x.size + 1 ≤ _; omega)
  obtain ⟨y2, hy2, hy2l, hy2s⟩ := cat_exR y1 S (by rw [hy1s]; show x.size + 1 + S.size ≤ _; omega)
  have hys : y2.size ≤ 80 := by rw [hy2s, hy1s]; show x.size + 1 + S.size ≤ _; omega
  have HY : Hid (y2.data.toList = evs.getD 2 [] ++ [32] ++ Lib.itoa n) := by show y2.data.toList = _; rw [hy2l, hy1l, HX.out, HS.out]
  have i0 := cell_regrown e0
  have i1 := cell_regrown e1
  have ih := cell_regrown hi
  have d11 : ∀ d os, Calls Tryz.prog 17 #[.int .i64 n] (Sort.grow (redrawn X1 d) os) fun e w'' => e = .returned (.string S) ∧ ∃ p : Regrown, w'' = Sort.grow (redrawn X1 p.d) p.os := fun d os => by
    rw [hS]
    exact Calls.regrown_of (itoa_fix n _ hn (HI.out _ (below_regrown X1 d os)).1.p10)
  clear hx hS hxs hSs hy1l hy1s hy2l hy2s hT B1 F1 HX HS hn
  go_enter Tryz.func6, Tryz.ntmps6
  go_wp2_with fail
  clear e0 e1 hi
  refine wp_region_quiet_below (by kernel_rfl) (by kernel_rfl) ?_
  repeat (first | go_big_quiet_step (first | with_reducible exact d11 _ _) | quiet_step (first | with_reducible exact d11 _ _))
  refine wpQuiet_nil ?_
  intro _ hw'
  obtain ⟨⟨dq, osq⟩, hw''⟩ := hw'
  subst hw''
  have hY := below_regrown X1 dq osq
  first | (change Exit.then _ _ Exit.normal _ (Sort.grow (redrawn X1 dq) osq)) | skip
  generalize Sort.grow (redrawn X1 dq) osq = Y at hY ⊢
  clear i0 i1 ih d11
  obtain ⟨hTY, hBY, hFY⟩ := HI.out Y hY
  have e0 := (hFY.cell 0 _ rfl).1
  have e1 := (hFY.cell 1 _ rfl).1
  have e2 := (hFY.cell 2 _ rfl).1
  have e3 := (hFY.cell 3 _ rfl).1
  have e4 := (hFY.cell 4 _ rfl).1
  have e5 := (hFY.cell 5 _ rfl).1
  have HBY : Hid (Below w.heap.size w Y) := hBY
  clear hy1 hy2 hY HI hX1 hBY
  clear hTY hFY hsh hnm hvs hvn
  go_wp2
  go_ret
  exact ⟨_, rfl, by rw [HR.out, HY.out, List.append_nil], HBY.out⟩
set_option maxRecDepth 100000 in
set_option maxHeartbeats 2000000 in
theorem event_3 (n vk vn : Int) (nm vs : ByteArray) (w : World) (hT : TW w) (hok : EvOk n vk vn nm vs) : Calls Tryz.prog 6 #[.agg #[.int .i64 3, .int .i64 n, .string nm, .int .i64 vk, .int .i64 vn, .string vs]] w (EvP 3 n vk vn nm vs w) := by
  obtain ⟨hn, hvn, hnm, hvs, hsh⟩ := hok
  have HR : Hid (evS 3 n nm.data.toList vk (Vs.showS vk vn vs).data.toList = evs.getD 3 [] ++ [32] ++ Lib.itoa n ++ ([])) := by show evS _ _ _ _ _ = _; unfold evS; rw [if_neg (by omega)]; rw [if_neg (by omega), if_neg (by omega), if_neg (by omega)]; rfl
  obtain ⟨X1, hX1⟩ : ∃ X1, w.alloc (.cells #[.int .i64 3, .int .i64 n, .string nm, .int .i64 vk, .int .i64 vn, .string vs] 27) = X1 := ⟨_, rfl⟩
  have B1 : Below w.heap.size w X1 := by rw [← hX1]; exact (Below.refl _ w).alloc (Nat.le_refl _) _
  have F1 : Full X1 w.heap.size 27 [.int .i64 3, .int .i64 n, .string nm, .int .i64 vk, .int .i64 vn, .string vs] := by rw [← hX1]; exact Full.new w _ _
  have e0 := (F1.cell 0 _ rfl).1
  have e1 := (F1.cell 1 _ rfl).1
  obtain ⟨x, hx⟩ : ∃ x : ByteArray, x = ⟨(evs.getD 3 []).toArray⟩ := ⟨_, rfl⟩
  have hi := (hT.next B1).ev 3 (by omega) (by omega)
  rw [← hx] at hi
  have HX : Hid (x.data.toList = evs.getD 3 []) := by show x.data.toList = _; rw [hx]
  obtain ⟨S, hS⟩ : ∃ S : ByteArray, S = ⟨(Lib.itoa n).toArray⟩ := ⟨_, rfl⟩
  have HS : Hid (S.data.toList = Lib.itoa n) := by show S.data.toList = _; rw [hS]
  have HI : Hid (∀ W, Below X1.heap.size X1 W → TW W ∧ Below w.heap.size w W ∧ Full W w.heap.size 27 [.int .i64 3, .int .i64 n, .string nm, .int .i64 vk, .int .i64 vn, .string vs]) := fun W h => ⟨hT.next (B1.trans (h.mono B1.size)), B1.trans (h.mono B1.size), F1.next h⟩
  have hxs : x.size ≤ 10 := by rw [Lib.size_eq, HX.out]; decide
  have hSs : S.size ≤ 60 := by have := Lib.itoa_length_le n hn.1 hn.2; rw [Lib.size_eq, HS.out]; omega
  obtain ⟨y1, hy1, hy1l, hy1s⟩ := cat_exR x ⟨#[32]⟩ (by show x.size + 1 ≤ _; omega)
  obtain ⟨y2, hy2, hy2l, hy2s⟩ := cat_exR y1 S (by rw [hy1s]; show x.size + 1 + S.size ≤ _; omega)
  have hys : y2.size ≤ 80 := by rw [hy2s, hy1s]; show x.size + 1 + S.size ≤ _; omega
  have HY : Hid (y2.data.toList = evs.getD 3 [] ++ [32] ++ Lib.itoa n) := by show y2.data.toList = _; rw [hy2l, hy1l, HX.out, HS.out]
  have i0 := cell_regrown e0
  have i1 := cell_regrown e1
  have ih := cell_regrown hi
  have d11 : ∀ d os, Calls Tryz.prog 17 #[.int .i64 n] (Sort.grow (redrawn X1 d) os) fun e w'' => e = .returned (.string S) ∧ ∃ p : Regrown, w'' = Sort.grow (redrawn X1 p.d) p.os := fun d os => by
    rw [hS]
    exact Calls.regrown_of (itoa_fix n _ hn (HI.out _ (below_regrown X1 d os)).1.p10)
  clear hx hS hxs hSs hy1l hy1s hy2l hy2s hT B1 F1 HX HS hn
  go_enter Tryz.func6, Tryz.ntmps6
  go_wp2_with fail
  clear e0 e1 hi
  refine wp_region_quiet_below (by kernel_rfl) (by kernel_rfl) ?_
  repeat (first | go_big_quiet_step (first | with_reducible exact d11 _ _) | quiet_step (first | with_reducible exact d11 _ _))
  refine wpQuiet_nil ?_
  intro _ hw'
  obtain ⟨⟨dq, osq⟩, hw''⟩ := hw'
  subst hw''
  have hY := below_regrown X1 dq osq
  first | (change Exit.then _ _ Exit.normal _ (Sort.grow (redrawn X1 dq) osq)) | skip
  generalize Sort.grow (redrawn X1 dq) osq = Y at hY ⊢
  clear i0 i1 ih d11
  obtain ⟨hTY, hBY, hFY⟩ := HI.out Y hY
  have e0 := (hFY.cell 0 _ rfl).1
  have e1 := (hFY.cell 1 _ rfl).1
  have e2 := (hFY.cell 2 _ rfl).1
  have e3 := (hFY.cell 3 _ rfl).1
  have e4 := (hFY.cell 4 _ rfl).1
  have e5 := (hFY.cell 5 _ rfl).1
  have HBY : Hid (Below w.heap.size w Y) := hBY
  clear hy1 hy2 hY HI hX1 hBY
  clear hTY hFY hsh hnm hvs hvn
  go_wp2
  go_ret
  exact ⟨_, rfl, by rw [HR.out, HY.out, List.append_nil], HBY.out⟩
set_option maxRecDepth 100000 in
set_option maxHeartbeats 2000000 in
theorem event_4 (n vk vn : Int) (nm vs : ByteArray) (w : World) (hT : TW w) (hok : EvOk n vk vn nm vs) : Calls Tryz.prog 6 #[.agg #[.int .i64 4, .int .i64 n, .string nm, .int .i64 vk, .int .i64 vn, .string vs]] w (EvP 4 n vk vn nm vs w) := by
  obtain ⟨hn, hvn, hnm, hvs, hsh⟩ := hok
  have HR : Hid (evS 4 n nm.data.toList vk (Vs.showS vk vn vs).data.toList = evs.getD 4 [] ++ [32] ++ Lib.itoa n ++ ([32] ++ nm.data.toList)) := by show evS _ _ _ _ _ = _; unfold evS; rw [if_neg (by omega)]; rfl
  obtain ⟨X1, hX1⟩ : ∃ X1, w.alloc (.cells #[.int .i64 4, .int .i64 n, .string nm, .int .i64 vk, .int .i64 vn, .string vs] 27) = X1 := ⟨_, rfl⟩
  have B1 : Below w.heap.size w X1 := by rw [← hX1]; exact (Below.refl _ w).alloc (Nat.le_refl _) _
  have F1 : Full X1 w.heap.size 27 [.int .i64 4, .int .i64 n, .string nm, .int .i64 vk, .int .i64 vn, .string vs] := by rw [← hX1]; exact Full.new w _ _
  have e0 := (F1.cell 0 _ rfl).1
  have e1 := (F1.cell 1 _ rfl).1
  obtain ⟨x, hx⟩ : ∃ x : ByteArray, x = ⟨(evs.getD 4 []).toArray⟩ := ⟨_, rfl⟩
  have hi := (hT.next B1).ev 4 (by omega) (by omega)
  rw [← hx] at hi
  have HX : Hid (x.data.toList = evs.getD 4 []) := by show x.data.toList = _; rw [hx]
  obtain ⟨S, hS⟩ : ∃ S : ByteArray, S = ⟨(Lib.itoa n).toArray⟩ := ⟨_, rfl⟩
  have HS : Hid (S.data.toList = Lib.itoa n) := by show S.data.toList = _; rw [hS]
  have HI : Hid (∀ W, Below X1.heap.size X1 W → TW W ∧ Below w.heap.size w W ∧ Full W w.heap.size 27 [.int .i64 4, .int .i64 n, .string nm, .int .i64 vk, .int .i64 vn, .string vs]) := fun W h => ⟨hT.next (B1.trans (h.mono B1.size)), B1.trans (h.mono B1.size), F1.next h⟩
  have hxs : x.size ≤ 10 := by rw [Lib.size_eq, HX.out]; decide
  have hSs : S.size ≤ 60 := by have := Lib.itoa_length_le n hn.1 hn.2; rw [Lib.size_eq, HS.out]; omega
  obtain ⟨y1, hy1, hy1l, hy1s⟩ := cat_exR x ⟨#[32]⟩ (by show x.size + 1 ≤ _; omega)
  obtain ⟨y2, hy2, hy2l, hy2s⟩ := cat_exR y1 S (by rw [hy1s]; show x.size + 1 + S.size ≤ _; omega)
  have hys : y2.size ≤ 80 := by rw [hy2s, hy1s]; show x.size + 1 + S.size ≤ _; omega
  have HY : Hid (y2.data.toList = evs.getD 4 [] ++ [32] ++ Lib.itoa n) := by show y2.data.toList = _; rw [hy2l, hy1l, HX.out, HS.out]
  have i0 := cell_regrown e0
  have i1 := cell_regrown e1
  have ih := cell_regrown hi
  have d11 : ∀ d os, Calls Tryz.prog 17 #[.int .i64 n] (Sort.grow (redrawn X1 d) os) fun e w'' => e = .returned (.string S) ∧ ∃ p : Regrown, w'' = Sort.grow (redrawn X1 p.d) p.os := fun d os => by
    rw [hS]
    exact Calls.regrown_of (itoa_fix n _ hn (HI.out _ (below_regrown X1 d os)).1.p10)
  clear hx hS hxs hSs hy1l hy1s hy2l hy2s hT B1 F1 HX HS hn
  go_enter Tryz.func6, Tryz.ntmps6
  go_wp2_with fail
  clear e0 e1 hi
  refine wp_region_quiet_below (by kernel_rfl) (by kernel_rfl) ?_
  repeat (first | go_big_quiet_step (first | with_reducible exact d11 _ _) | quiet_step (first | with_reducible exact d11 _ _))
  refine wpQuiet_nil ?_
  intro _ hw'
  obtain ⟨⟨dq, osq⟩, hw''⟩ := hw'
  subst hw''
  have hY := below_regrown X1 dq osq
  first | (change Exit.then _ _ Exit.normal _ (Sort.grow (redrawn X1 dq) osq)) | skip
  generalize Sort.grow (redrawn X1 dq) osq = Y at hY ⊢
  clear i0 i1 ih d11
  obtain ⟨hTY, hBY, hFY⟩ := HI.out Y hY
  have e0 := (hFY.cell 0 _ rfl).1
  have e1 := (hFY.cell 1 _ rfl).1
  have e2 := (hFY.cell 2 _ rfl).1
  have e3 := (hFY.cell 3 _ rfl).1
  have e4 := (hFY.cell 4 _ rfl).1
  have e5 := (hFY.cell 5 _ rfl).1
  have HBY : Hid (Below w.heap.size w Y) := hBY
  clear hy1 hy2 hY HI hX1 hBY
  have hz1 : (⟨#[32]⟩ : ByteArray).size + nm.size ≤ 9223372036854775807 := by show 1 + nm.size ≤ _; omega
  have hz2 : y2.size + ((⟨#[32]⟩ : ByteArray) ++ nm).size ≤ 9223372036854775807 := by rw [ByteArray.size_append]; show _ + (1 + nm.size) ≤ _; omega
  clear hTY hFY hsh hnm hvs hvn
  go_wp2
  go_ret
  exact ⟨_, rfl, by rw [HR.out, cat_list, cat_list, HY.out]; try simp, HBY.out⟩
set_option maxRecDepth 100000 in
set_option maxHeartbeats 2000000 in
theorem event_5 (n vk vn : Int) (nm vs : ByteArray) (w : World) (hT : TW w) (hok : EvOk n vk vn nm vs) : Calls Tryz.prog 6 #[.agg #[.int .i64 5, .int .i64 n, .string nm, .int .i64 vk, .int .i64 vn, .string vs]] w (EvP 5 n vk vn nm vs w) := by
  obtain ⟨hn, hvn, hnm, hvs, hsh⟩ := hok
  have HR : Hid (evS 5 n nm.data.toList vk (Vs.showS vk vn vs).data.toList = evs.getD 5 [] ++ [32] ++ Lib.itoa n ++ ([])) := by show evS _ _ _ _ _ = _; unfold evS; rw [if_neg (by omega)]; rw [if_neg (by omega), if_neg (by omega), if_neg (by omega)]; rfl
  obtain ⟨X1, hX1⟩ : ∃ X1, w.alloc (.cells #[.int .i64 5, .int .i64 n, .string nm, .int .i64 vk, .int .i64 vn, .string vs] 27) = X1 := ⟨_, rfl⟩
  have B1 : Below w.heap.size w X1 := by rw [← hX1]; exact (Below.refl _ w).alloc (Nat.le_refl _) _
  have F1 : Full X1 w.heap.size 27 [.int .i64 5, .int .i64 n, .string nm, .int .i64 vk, .int .i64 vn, .string vs] := by rw [← hX1]; exact Full.new w _ _
  have e0 := (F1.cell 0 _ rfl).1
  have e1 := (F1.cell 1 _ rfl).1
  obtain ⟨x, hx⟩ : ∃ x : ByteArray, x = ⟨(evs.getD 5 []).toArray⟩ := ⟨_, rfl⟩
  have hi := (hT.next B1).ev 5 (by omega) (by omega)
  rw [← hx] at hi
  have HX : Hid (x.data.toList = evs.getD 5 []) := by show x.data.toList = _; rw [hx]
  obtain ⟨S, hS⟩ : ∃ S : ByteArray, S = ⟨(Lib.itoa n).toArray⟩ := ⟨_, rfl⟩
  have HS : Hid (S.data.toList = Lib.itoa n) := by show S.data.toList = _; rw [hS]
  have HI : Hid (∀ W, Below X1.heap.size X1 W → TW W ∧ Below w.heap.size w W ∧ Full W w.heap.size 27 [.int .i64 5, .int .i64 n, .string nm, .int .i64 vk, .int .i64 vn, .string vs]) := fun W h => ⟨hT.next (B1.trans (h.mono B1.size)), B1.trans (h.mono B1.size), F1.next h⟩
  have hxs : x.size ≤ 10 := by rw [Lib.size_eq, HX.out]; decide
  have hSs : S.size ≤ 60 := by have := Lib.itoa_length_le n hn.1 hn.2; rw [Lib.size_eq, HS.out]; omega
  obtain ⟨y1, hy1, hy1l, hy1s⟩ := cat_exR x ⟨#[32]⟩ (by show x.size + 1 ≤ _; omega)
  obtain ⟨y2, hy2, hy2l, hy2s⟩ := cat_exR y1 S (by rw [hy1s]; show x.size + 1 + S.size ≤ _; omega)
  have hys : y2.size ≤ 80 := by rw [hy2s, hy1s]; show x.size + 1 + S.size ≤ _; omega
  have HY : Hid (y2.data.toList = evs.getD 5 [] ++ [32] ++ Lib.itoa n) := by show y2.data.toList = _; rw [hy2l, hy1l, HX.out, HS.out]
  have i0 := cell_regrown e0
  have i1 := cell_regrown e1
  have ih := cell_regrown hi
  have d11 : ∀ d os, Calls Tryz.prog 17 #[.int .i64 n] (Sort.grow (redrawn X1 d) os) fun e w'' => e = .returned (.string S) ∧ ∃ p : Regrown, w'' = Sort.grow (redrawn X1 p.d) p.os := fun d os => by
    rw [hS]
    exact Calls.regrown_of (itoa_fix n _ hn (HI.out _ (below_regrown X1 d os)).1.p10)
  clear hx hS hxs hSs hy1l hy1s hy2l hy2s hT B1 F1 HX HS hn
  go_enter Tryz.func6, Tryz.ntmps6
  go_wp2_with fail
  clear e0 e1 hi
  refine wp_region_quiet_below (by kernel_rfl) (by kernel_rfl) ?_
  repeat (first | go_big_quiet_step (first | with_reducible exact d11 _ _) | quiet_step (first | with_reducible exact d11 _ _))
  refine wpQuiet_nil ?_
  intro _ hw'
  obtain ⟨⟨dq, osq⟩, hw''⟩ := hw'
  subst hw''
  have hY := below_regrown X1 dq osq
  first | (change Exit.then _ _ Exit.normal _ (Sort.grow (redrawn X1 dq) osq)) | skip
  generalize Sort.grow (redrawn X1 dq) osq = Y at hY ⊢
  clear i0 i1 ih d11
  obtain ⟨hTY, hBY, hFY⟩ := HI.out Y hY
  have e0 := (hFY.cell 0 _ rfl).1
  have e1 := (hFY.cell 1 _ rfl).1
  have e2 := (hFY.cell 2 _ rfl).1
  have e3 := (hFY.cell 3 _ rfl).1
  have e4 := (hFY.cell 4 _ rfl).1
  have e5 := (hFY.cell 5 _ rfl).1
  have HBY : Hid (Below w.heap.size w Y) := hBY
  clear hy1 hy2 hY HI hX1 hBY
  clear hTY hFY hsh hnm hvs hvn
  go_wp2
  go_ret
  exact ⟨_, rfl, by rw [HR.out, HY.out, List.append_nil], HBY.out⟩
set_option maxRecDepth 100000 in
set_option maxHeartbeats 2000000 in
theorem event_6z (n vn : Int) (nm vs : ByteArray) (w : World) (hT : TW w) (hok : EvOk n 0 vn nm vs) : Calls Tryz.prog 6 #[.agg #[.int .i64 6, .int .i64 n, .string nm, .int .i64 0, .int .i64 vn, .string vs]] w (EvP 6 n 0 vn nm vs w) := by
  obtain ⟨hn, hvn, hnm, hvs, hsh⟩ := hok
  have HR : Hid (evS 6 n nm.data.toList 0 (Vs.showS 0 vn vs).data.toList = evs.getD 6 [] ++ [32] ++ Lib.itoa n ++ ([])) := by show evS _ _ _ _ _ = _; unfold evS; rw [if_neg (by omega)]; rfl
  obtain ⟨X1, hX1⟩ : ∃ X1, w.alloc (.cells #[.int .i64 6, .int .i64 n, .string nm, .int .i64 0, .int .i64 vn, .string vs] 27) = X1 := ⟨_, rfl⟩
  have B1 : Below w.heap.size w X1 := by rw [← hX1]; exact (Below.refl _ w).alloc (Nat.le_refl _) _
  have F1 : Full X1 w.heap.size 27 [.int .i64 6, .int .i64 n, .string nm, .int .i64 0, .int .i64 vn, .string vs] := by rw [← hX1]; exact Full.new w _ _
  have e0 := (F1.cell 0 _ rfl).1
  have e1 := (F1.cell 1 _ rfl).1
  obtain ⟨x, hx⟩ : ∃ x : ByteArray, x = ⟨(evs.getD 6 []).toArray⟩ := ⟨_, rfl⟩
  have hi := (hT.next B1).ev 6 (by omega) (by omega)
  rw [← hx] at hi
  have HX : Hid (x.data.toList = evs.getD 6 []) := by show x.data.toList = _; rw [hx]
  obtain ⟨S, hS⟩ : ∃ S : ByteArray, S = ⟨(Lib.itoa n).toArray⟩ := ⟨_, rfl⟩
  have HS : Hid (S.data.toList = Lib.itoa n) := by show S.data.toList = _; rw [hS]
  have HI : Hid (∀ W, Below X1.heap.size X1 W → TW W ∧ Below w.heap.size w W ∧ Full W w.heap.size 27 [.int .i64 6, .int .i64 n, .string nm, .int .i64 0, .int .i64 vn, .string vs]) := fun W h => ⟨hT.next (B1.trans (h.mono B1.size)), B1.trans (h.mono B1.size), F1.next h⟩
  have hxs : x.size ≤ 10 := by rw [Lib.size_eq, HX.out]; decide
  have hSs : S.size ≤ 60 := by have := Lib.itoa_length_le n hn.1 hn.2; rw [Lib.size_eq, HS.out]; omega
  obtain ⟨y1, hy1, hy1l, hy1s⟩ := cat_exR x ⟨#[32]⟩ (by show x.size + 1 ≤ _; omega)
  obtain ⟨y2, hy2, hy2l, hy2s⟩ := cat_exR y1 S (by rw [hy1s]; show x.size + 1 + S.size ≤ _; omega)
  have hys : y2.size ≤ 80 := by rw [hy2s, hy1s]; show x.size + 1 + S.size ≤ _; omega
  have HY : Hid (y2.data.toList = evs.getD 6 [] ++ [32] ++ Lib.itoa n) := by show y2.data.toList = _; rw [hy2l, hy1l, HX.out, HS.out]
  have i0 := cell_regrown e0
  have i1 := cell_regrown e1
  have ih := cell_regrown hi
  have d11 : ∀ d os, Calls Tryz.prog 17 #[.int .i64 n] (Sort.grow (redrawn X1 d) os) fun e w'' => e = .returned (.string S) ∧ ∃ p : Regrown, w'' = Sort.grow (redrawn X1 p.d) p.os := fun d os => by
    rw [hS]
    exact Calls.regrown_of (itoa_fix n _ hn (HI.out _ (below_regrown X1 d os)).1.p10)
  clear hx hS hxs hSs hy1l hy1s hy2l hy2s hT B1 F1 HX HS hn
  go_enter Tryz.func6, Tryz.ntmps6
  go_wp2_with fail
  clear e0 e1 hi
  refine wp_region_quiet_below (by kernel_rfl) (by kernel_rfl) ?_
  repeat (first | go_big_quiet_step (first | with_reducible exact d11 _ _) | quiet_step (first | with_reducible exact d11 _ _))
  refine wpQuiet_nil ?_
  intro _ hw'
  obtain ⟨⟨dq, osq⟩, hw''⟩ := hw'
  subst hw''
  have hY := below_regrown X1 dq osq
  first | (change Exit.then _ _ Exit.normal _ (Sort.grow (redrawn X1 dq) osq)) | skip
  generalize Sort.grow (redrawn X1 dq) osq = Y at hY ⊢
  clear i0 i1 ih d11
  obtain ⟨hTY, hBY, hFY⟩ := HI.out Y hY
  have e0 := (hFY.cell 0 _ rfl).1
  have e1 := (hFY.cell 1 _ rfl).1
  have e2 := (hFY.cell 2 _ rfl).1
  have e3 := (hFY.cell 3 _ rfl).1
  have e4 := (hFY.cell 4 _ rfl).1
  have e5 := (hFY.cell 5 _ rfl).1
  have HBY : Hid (Below w.heap.size w Y) := hBY
  clear hy1 hy2 hY HI hX1 hBY
  clear hTY hFY hsh hnm hvs hvn
  go_wp2
  go_ret
  exact ⟨_, rfl, by rw [HR.out, HY.out, List.append_nil], HBY.out⟩
set_option maxRecDepth 100000 in
set_option maxHeartbeats 2000000 in
theorem event_6 (n vk vn : Int) (nm vs : ByteArray) (w : World) (hT : TW w) (hok : EvOk n vk vn nm vs) (hk : (vk == 0) = false) : Calls Tryz.prog 6 #[.agg #[.int .i64 6, .int .i64 n, .string nm, .int .i64 vk, .int .i64 vn, .string vs]] w (EvP 6 n vk vn nm vs w) := by
  have HK : Hid (vk ≠ 0) := by show vk ≠ 0; intro q; rw [q] at hk; cases hk
  obtain ⟨hn, hvn, hnm, hvs, hsh⟩ := hok
  have HR : Hid (evS 6 n nm.data.toList vk (Vs.showS vk vn vs).data.toList = evs.getD 6 [] ++ [32] ++ Lib.itoa n ++ ([32, 61, 32] ++ (Vs.showS vk vn vs).data.toList)) := by show evS _ _ _ _ _ = _; unfold evS; rw [if_neg (by omega)]; rw [if_neg (by omega), if_pos rfl, if_neg HK.out]; rfl
  obtain ⟨X1, hX1⟩ : ∃ X1, w.alloc (.cells #[.int .i64 6, .int .i64 n, .string nm, .int .i64 vk, .int .i64 vn, .string vs] 27) = X1 := ⟨_, rfl⟩
  have B1 : Below w.heap.size w X1 := by rw [← hX1]; exact (Below.refl _ w).alloc (Nat.le_refl _) _
  have F1 : Full X1 w.heap.size 27 [.int .i64 6, .int .i64 n, .string nm, .int .i64 vk, .int .i64 vn, .string vs] := by rw [← hX1]; exact Full.new w _ _
  have e0 := (F1.cell 0 _ rfl).1
  have e1 := (F1.cell 1 _ rfl).1
  obtain ⟨x, hx⟩ : ∃ x : ByteArray, x = ⟨(evs.getD 6 []).toArray⟩ := ⟨_, rfl⟩
  have hi := (hT.next B1).ev 6 (by omega) (by omega)
  rw [← hx] at hi
  have HX : Hid (x.data.toList = evs.getD 6 []) := by show x.data.toList = _; rw [hx]
  obtain ⟨S, hS⟩ : ∃ S : ByteArray, S = ⟨(Lib.itoa n).toArray⟩ := ⟨_, rfl⟩
  have HS : Hid (S.data.toList = Lib.itoa n) := by show S.data.toList = _; rw [hS]
  have HI : Hid (∀ W, Below X1.heap.size X1 W → TW W ∧ Below w.heap.size w W ∧ Full W w.heap.size 27 [.int .i64 6, .int .i64 n, .string nm, .int .i64 vk, .int .i64 vn, .string vs]) := fun W h => ⟨hT.next (B1.trans (h.mono B1.size)), B1.trans (h.mono B1.size), F1.next h⟩
  have hxs : x.size ≤ 10 := by rw [Lib.size_eq, HX.out]; decide
  have hSs : S.size ≤ 60 := by have := Lib.itoa_length_le n hn.1 hn.2; rw [Lib.size_eq, HS.out]; omega
  obtain ⟨y1, hy1, hy1l, hy1s⟩ := cat_exR x ⟨#[32]⟩ (by show x.size + 1 ≤ _; omega)
  obtain ⟨y2, hy2, hy2l, hy2s⟩ := cat_exR y1 S (by rw [hy1s]; show x.size + 1 + S.size ≤ _; omega)
  have hys : y2.size ≤ 80 := by rw [hy2s, hy1s]; show x.size + 1 + S.size ≤ _; omega
  have HY : Hid (y2.data.toList = evs.getD 6 [] ++ [32] ++ Lib.itoa n) := by show y2.data.toList = _; rw [hy2l, hy1l, HX.out, HS.out]
  have i0 := cell_regrown e0
  have i1 := cell_regrown e1
  have ih := cell_regrown hi
  have d11 : ∀ d os, Calls Tryz.prog 17 #[.int .i64 n] (Sort.grow (redrawn X1 d) os) fun e w'' => e = .returned (.string S) ∧ ∃ p : Regrown, w'' = Sort.grow (redrawn X1 p.d) p.os := fun d os => by
    rw [hS]
    exact Calls.regrown_of (itoa_fix n _ hn (HI.out _ (below_regrown X1 d os)).1.p10)
  clear hx hS hxs hSs hy1l hy1s hy2l hy2s hT B1 F1 HX HS hn
  go_enter Tryz.func6, Tryz.ntmps6
  go_wp2_with fail
  clear e0 e1 hi
  refine wp_region_quiet_below (by kernel_rfl) (by kernel_rfl) ?_
  repeat (first | go_big_quiet_step (first | with_reducible exact d11 _ _) | quiet_step (first | with_reducible exact d11 _ _))
  refine wpQuiet_nil ?_
  intro _ hw'
  obtain ⟨⟨dq, osq⟩, hw''⟩ := hw'
  subst hw''
  have hY := below_regrown X1 dq osq
  first | (change Exit.then _ _ Exit.normal _ (Sort.grow (redrawn X1 dq) osq)) | skip
  generalize Sort.grow (redrawn X1 dq) osq = Y at hY ⊢
  clear i0 i1 ih d11
  obtain ⟨hTY, hBY, hFY⟩ := HI.out Y hY
  have e0 := (hFY.cell 0 _ rfl).1
  have e1 := (hFY.cell 1 _ rfl).1
  have e2 := (hFY.cell 2 _ rfl).1
  have e3 := (hFY.cell 3 _ rfl).1
  have e4 := (hFY.cell 4 _ rfl).1
  have e5 := (hFY.cell 5 _ rfl).1
  have HBY : Hid (Below w.heap.size w Y) := hBY
  clear hy1 hy2 hY HI hX1 hBY
  obtain ⟨V, hV⟩ : ∃ V : ByteArray, V = Vs.showS vk vn vs := ⟨_, rfl⟩
  have HV : Hid (V.data.toList = (Vs.showS vk vn vs).data.toList) := by show V.data.toList = _; rw [hV]
  have hVs : V.size ≤ 10000 := by rw [hV]; exact hsh
  have C := Vs.show_any vk vn vs Y (by omega) hvn hTY.p10
  rw [← hV] at C
  have hz1 : (⟨#[32, 61, 32]⟩ : ByteArray).size + V.size ≤ 9223372036854775807 := by show 3 + V.size ≤ _; omega
  have hz2 : y2.size + ((⟨#[32, 61, 32]⟩ : ByteArray) ++ V).size ≤ 9223372036854775807 := by rw [ByteArray.size_append]; show _ + (3 + V.size) ≤ _; omega
  clear hV hVs hTY hFY hsh hnm hvs hvn
  go_wp2_with fail
  refine C.mono ?_
  rintro e w3 ⟨rfl, hb⟩
  have HBZ : Hid (Below w.heap.size w w3) := HBY.out.trans (hb.mono HBY.out.size)
  clear hb C e0 e1 e2 e3 e4 e5
  go_wp2
  go_ret
  exact ⟨_, rfl, by rw [HR.out, cat_list, cat_list, HY.out, HV.out]; try simp, HBZ.out⟩
set_option maxRecDepth 100000 in
set_option maxHeartbeats 2000000 in
theorem event_7 (n vk vn : Int) (nm vs : ByteArray) (w : World) (hT : TW w) (hok : EvOk n vk vn nm vs) : Calls Tryz.prog 6 #[.agg #[.int .i64 7, .int .i64 n, .string nm, .int .i64 vk, .int .i64 vn, .string vs]] w (EvP 7 n vk vn nm vs w) := by
  obtain ⟨hn, hvn, hnm, hvs, hsh⟩ := hok
  have HR : Hid (evS 7 n nm.data.toList vk (Vs.showS vk vn vs).data.toList = evs.getD 7 [] ++ [32] ++ Lib.itoa n ++ ([32] ++ nm.data.toList ++ [32, 61, 32] ++ (Vs.showS vk vn vs).data.toList)) := by show evS _ _ _ _ _ = _; unfold evS; rw [if_neg (by omega)]; rw [if_neg (by omega), if_neg (by omega), if_pos (by omega)]; rfl
  obtain ⟨X1, hX1⟩ : ∃ X1, w.alloc (.cells #[.int .i64 7, .int .i64 n, .string nm, .int .i64 vk, .int .i64 vn, .string vs] 27) = X1 := ⟨_, rfl⟩
  have B1 : Below w.heap.size w X1 := by rw [← hX1]; exact (Below.refl _ w).alloc (Nat.le_refl _) _
  have F1 : Full X1 w.heap.size 27 [.int .i64 7, .int .i64 n, .string nm, .int .i64 vk, .int .i64 vn, .string vs] := by rw [← hX1]; exact Full.new w _ _
  have e0 := (F1.cell 0 _ rfl).1
  have e1 := (F1.cell 1 _ rfl).1
  obtain ⟨x, hx⟩ : ∃ x : ByteArray, x = ⟨(evs.getD 7 []).toArray⟩ := ⟨_, rfl⟩
  have hi := (hT.next B1).ev 7 (by omega) (by omega)
  rw [← hx] at hi
  have HX : Hid (x.data.toList = evs.getD 7 []) := by show x.data.toList = _; rw [hx]
  obtain ⟨S, hS⟩ : ∃ S : ByteArray, S = ⟨(Lib.itoa n).toArray⟩ := ⟨_, rfl⟩
  have HS : Hid (S.data.toList = Lib.itoa n) := by show S.data.toList = _; rw [hS]
  have HI : Hid (∀ W, Below X1.heap.size X1 W → TW W ∧ Below w.heap.size w W ∧ Full W w.heap.size 27 [.int .i64 7, .int .i64 n, .string nm, .int .i64 vk, .int .i64 vn, .string vs]) := fun W h => ⟨hT.next (B1.trans (h.mono B1.size)), B1.trans (h.mono B1.size), F1.next h⟩
  have hxs : x.size ≤ 10 := by rw [Lib.size_eq, HX.out]; decide
  have hSs : S.size ≤ 60 := by have := Lib.itoa_length_le n hn.1 hn.2; rw [Lib.size_eq, HS.out]; omega
  obtain ⟨y1, hy1, hy1l, hy1s⟩ := cat_exR x ⟨#[32]⟩ (by show x.size + 1 ≤ _; omega)
  obtain ⟨y2, hy2, hy2l, hy2s⟩ := cat_exR y1 S (by rw [hy1s]; show x.size + 1 + S.size ≤ _; omega)
  have hys : y2.size ≤ 80 := by rw [hy2s, hy1s]; show x.size + 1 + S.size ≤ _; omega
  have HY : Hid (y2.data.toList = evs.getD 7 [] ++ [32] ++ Lib.itoa n) := by show y2.data.toList = _; rw [hy2l, hy1l, HX.out, HS.out]
  have i0 := cell_regrown e0
  have i1 := cell_regrown e1
  have ih := cell_regrown hi
  have d11 : ∀ d os, Calls Tryz.prog 17 #[.int .i64 n] (Sort.grow (redrawn X1 d) os) fun e w'' => e = .returned (.string S) ∧ ∃ p : Regrown, w'' = Sort.grow (redrawn X1 p.d) p.os := fun d os => by
    rw [hS]
    exact Calls.regrown_of (itoa_fix n _ hn (HI.out _ (below_regrown X1 d os)).1.p10)
  clear hx hS hxs hSs hy1l hy1s hy2l hy2s hT B1 F1 HX HS hn
  go_enter Tryz.func6, Tryz.ntmps6
  go_wp2_with fail
  clear e0 e1 hi
  refine wp_region_quiet_below (by kernel_rfl) (by kernel_rfl) ?_
  repeat (first | go_big_quiet_step (first | with_reducible exact d11 _ _) | quiet_step (first | with_reducible exact d11 _ _))
  refine wpQuiet_nil ?_
  intro _ hw'
  obtain ⟨⟨dq, osq⟩, hw''⟩ := hw'
  subst hw''
  have hY := below_regrown X1 dq osq
  first | (change Exit.then _ _ Exit.normal _ (Sort.grow (redrawn X1 dq) osq)) | skip
  generalize Sort.grow (redrawn X1 dq) osq = Y at hY ⊢
  clear i0 i1 ih d11
  obtain ⟨hTY, hBY, hFY⟩ := HI.out Y hY
  have e0 := (hFY.cell 0 _ rfl).1
  have e1 := (hFY.cell 1 _ rfl).1
  have e2 := (hFY.cell 2 _ rfl).1
  have e3 := (hFY.cell 3 _ rfl).1
  have e4 := (hFY.cell 4 _ rfl).1
  have e5 := (hFY.cell 5 _ rfl).1
  have HBY : Hid (Below w.heap.size w Y) := hBY
  clear hy1 hy2 hY HI hX1 hBY
  obtain ⟨V, hV⟩ : ∃ V : ByteArray, V = Vs.showS vk vn vs := ⟨_, rfl⟩
  have HV : Hid (V.data.toList = (Vs.showS vk vn vs).data.toList) := by show V.data.toList = _; rw [hV]
  have hVs : V.size ≤ 10000 := by rw [hV]; exact hsh
  have HT9 : Hid (TW Y) := hTY
  have d12 : ∀ d os, Calls Tryz.prog 18 #[.agg #[.int .i64 vk, .int .i64 vn, .string vs]] (Sort.grow (redrawn Y d) os) fun e w'' => e = .returned (.string V) ∧ ∃ p : Regrown, w'' = Sort.grow (redrawn Y p.d) p.os := fun d os => by
    rw [hV]
    exact Calls.regrown_of (Vs.show_any vk vn vs _ (by omega) hvn (HT9.out.next (below_regrown Y d os)).p10)
  have i2 := cell_regrown e2
  have i3 := cell_regrown e3
  have i4 := cell_regrown e4
  have i5 := cell_regrown e5
  obtain ⟨a1, ha1, a1l, a1s⟩ := cat_exR ⟨#[32]⟩ nm (by show 1 + nm.size ≤ _; omega)
  obtain ⟨a2, ha2, a2l, a2s⟩ := cat_exR a1 ⟨#[32, 61, 32]⟩ (by rw [a1s]; show 1 + nm.size + 3 ≤ _; omega)
  obtain ⟨a3, ha3, a3l, a3s⟩ := cat_exR a2 V (by rw [a2s, a1s]; show 1 + nm.size + 3 + V.size ≤ _; omega)
  obtain ⟨a4, ha4, a4l, a4s⟩ := cat_exR y2 a3 (by rw [a3s, a2s, a1s]; show y2.size + (1 + nm.size + 3 + V.size) ≤ _; omega)
  have HA : Hid (a4.data.toList = evS 7 n nm.data.toList vk (Vs.showS vk vn vs).data.toList) := by show a4.data.toList = _; rw [HR.out, a4l, a3l, a2l, a1l, HY.out, HV.out]; try simp
  clear hV a1l a1s a2l a2s a3l a3s a4l a4s
  go_wp2_with fail
  clear e0 e1 e2 e3 e4 e5
  refine wp_region_quiet_below (by kernel_rfl) (by kernel_rfl) ?_
  repeat (first | go_big_quiet_step (first | with_reducible exact d12 _ _) | quiet_step (first | with_reducible exact d12 _ _))
  refine wpQuiet_nil ?_
  intro _ hw'
  obtain ⟨⟨dq, osq⟩, hw''⟩ := hw'
  subst hw''
  have hZ := below_regrown Y dq osq
  first | (change Exit.then _ _ Exit.normal _ (Sort.grow (redrawn Y dq) osq)) | skip
  generalize Sort.grow (redrawn Y dq) osq = Z at hZ ⊢
  have HBZ : Hid (Below w.heap.size w Z) := HBY.out.trans (hZ.mono HBY.out.size)
  clear i2 i3 i4 i5 d12 hVs hTY hFY hsh hnm hvs hvn hZ
  go_wp2
  go_ret
  exact ⟨_, rfl, HA.out, HBZ.out⟩
set_option maxRecDepth 100000 in
set_option maxHeartbeats 2000000 in
theorem event_8 (n vk vn : Int) (nm vs : ByteArray) (w : World) (hT : TW w) (hok : EvOk n vk vn nm vs) : Calls Tryz.prog 6 #[.agg #[.int .i64 8, .int .i64 n, .string nm, .int .i64 vk, .int .i64 vn, .string vs]] w (EvP 8 n vk vn nm vs w) := by
  obtain ⟨hn, hvn, hnm, hvs, hsh⟩ := hok
  have HR : Hid (evS 8 n nm.data.toList vk (Vs.showS vk vn vs).data.toList = evs.getD 8 [] ++ [32] ++ Lib.itoa n ++ ([32] ++ nm.data.toList ++ [32, 61, 32] ++ (Vs.showS vk vn vs).data.toList)) := by show evS _ _ _ _ _ = _; unfold evS; rw [if_neg (by omega)]; rw [if_neg (by omega), if_neg (by omega), if_pos (by omega)]; rfl
  obtain ⟨X1, hX1⟩ : ∃ X1, w.alloc (.cells #[.int .i64 8, .int .i64 n, .string nm, .int .i64 vk, .int .i64 vn, .string vs] 27) = X1 := ⟨_, rfl⟩
  have B1 : Below w.heap.size w X1 := by rw [← hX1]; exact (Below.refl _ w).alloc (Nat.le_refl _) _
  have F1 : Full X1 w.heap.size 27 [.int .i64 8, .int .i64 n, .string nm, .int .i64 vk, .int .i64 vn, .string vs] := by rw [← hX1]; exact Full.new w _ _
  have e0 := (F1.cell 0 _ rfl).1
  have e1 := (F1.cell 1 _ rfl).1
  obtain ⟨x, hx⟩ : ∃ x : ByteArray, x = ⟨(evs.getD 8 []).toArray⟩ := ⟨_, rfl⟩
  have hi := (hT.next B1).ev 8 (by omega) (by omega)
  rw [← hx] at hi
  have HX : Hid (x.data.toList = evs.getD 8 []) := by show x.data.toList = _; rw [hx]
  obtain ⟨S, hS⟩ : ∃ S : ByteArray, S = ⟨(Lib.itoa n).toArray⟩ := ⟨_, rfl⟩
  have HS : Hid (S.data.toList = Lib.itoa n) := by show S.data.toList = _; rw [hS]
  have HI : Hid (∀ W, Below X1.heap.size X1 W → TW W ∧ Below w.heap.size w W ∧ Full W w.heap.size 27 [.int .i64 8, .int .i64 n, .string nm, .int .i64 vk, .int .i64 vn, .string vs]) := fun W h => ⟨hT.next (B1.trans (h.mono B1.size)), B1.trans (h.mono B1.size), F1.next h⟩
  have hxs : x.size ≤ 10 := by rw [Lib.size_eq, HX.out]; decide
  have hSs : S.size ≤ 60 := by have := Lib.itoa_length_le n hn.1 hn.2; rw [Lib.size_eq, HS.out]; omega
  obtain ⟨y1, hy1, hy1l, hy1s⟩ := cat_exR x ⟨#[32]⟩ (by show x.size + 1 ≤ _; omega)
  obtain ⟨y2, hy2, hy2l, hy2s⟩ := cat_exR y1 S (by rw [hy1s]; show x.size + 1 + S.size ≤ _; omega)
  have hys : y2.size ≤ 80 := by rw [hy2s, hy1s]; show x.size + 1 + S.size ≤ _; omega
  have HY : Hid (y2.data.toList = evs.getD 8 [] ++ [32] ++ Lib.itoa n) := by show y2.data.toList = _; rw [hy2l, hy1l, HX.out, HS.out]
  have i0 := cell_regrown e0
  have i1 := cell_regrown e1
  have ih := cell_regrown hi
  have d11 : ∀ d os, Calls Tryz.prog 17 #[.int .i64 n] (Sort.grow (redrawn X1 d) os) fun e w'' => e = .returned (.string S) ∧ ∃ p : Regrown, w'' = Sort.grow (redrawn X1 p.d) p.os := fun d os => by
    rw [hS]
    exact Calls.regrown_of (itoa_fix n _ hn (HI.out _ (below_regrown X1 d os)).1.p10)
  clear hx hS hxs hSs hy1l hy1s hy2l hy2s hT B1 F1 HX HS hn
  go_enter Tryz.func6, Tryz.ntmps6
  go_wp2_with fail
  clear e0 e1 hi
  refine wp_region_quiet_below (by kernel_rfl) (by kernel_rfl) ?_
  repeat (first | go_big_quiet_step (first | with_reducible exact d11 _ _) | quiet_step (first | with_reducible exact d11 _ _))
  refine wpQuiet_nil ?_
  intro _ hw'
  obtain ⟨⟨dq, osq⟩, hw''⟩ := hw'
  subst hw''
  have hY := below_regrown X1 dq osq
  first | (change Exit.then _ _ Exit.normal _ (Sort.grow (redrawn X1 dq) osq)) | skip
  generalize Sort.grow (redrawn X1 dq) osq = Y at hY ⊢
  clear i0 i1 ih d11
  obtain ⟨hTY, hBY, hFY⟩ := HI.out Y hY
  have e0 := (hFY.cell 0 _ rfl).1
  have e1 := (hFY.cell 1 _ rfl).1
  have e2 := (hFY.cell 2 _ rfl).1
  have e3 := (hFY.cell 3 _ rfl).1
  have e4 := (hFY.cell 4 _ rfl).1
  have e5 := (hFY.cell 5 _ rfl).1
  have HBY : Hid (Below w.heap.size w Y) := hBY
  clear hy1 hy2 hY HI hX1 hBY
  obtain ⟨V, hV⟩ : ∃ V : ByteArray, V = Vs.showS vk vn vs := ⟨_, rfl⟩
  have HV : Hid (V.data.toList = (Vs.showS vk vn vs).data.toList) := by show V.data.toList = _; rw [hV]
  have hVs : V.size ≤ 10000 := by rw [hV]; exact hsh
  have HT9 : Hid (TW Y) := hTY
  have d12 : ∀ d os, Calls Tryz.prog 18 #[.agg #[.int .i64 vk, .int .i64 vn, .string vs]] (Sort.grow (redrawn Y d) os) fun e w'' => e = .returned (.string V) ∧ ∃ p : Regrown, w'' = Sort.grow (redrawn Y p.d) p.os := fun d os => by
    rw [hV]
    exact Calls.regrown_of (Vs.show_any vk vn vs _ (by omega) hvn (HT9.out.next (below_regrown Y d os)).p10)
  have i2 := cell_regrown e2
  have i3 := cell_regrown e3
  have i4 := cell_regrown e4
  have i5 := cell_regrown e5
  obtain ⟨a1, ha1, a1l, a1s⟩ := cat_exR ⟨#[32]⟩ nm (by show 1 + nm.size ≤ _; omega)
  obtain ⟨a2, ha2, a2l, a2s⟩ := cat_exR a1 ⟨#[32, 61, 32]⟩ (by rw [a1s]; show 1 + nm.size + 3 ≤ _; omega)
  obtain ⟨a3, ha3, a3l, a3s⟩ := cat_exR a2 V (by rw [a2s, a1s]; show 1 + nm.size + 3 + V.size ≤ _; omega)
  obtain ⟨a4, ha4, a4l, a4s⟩ := cat_exR y2 a3 (by rw [a3s, a2s, a1s]; show y2.size + (1 + nm.size + 3 + V.size) ≤ _; omega)
  have HA : Hid (a4.data.toList = evS 8 n nm.data.toList vk (Vs.showS vk vn vs).data.toList) := by show a4.data.toList = _; rw [HR.out, a4l, a3l, a2l, a1l, HY.out, HV.out]; try simp
  clear hV a1l a1s a2l a2s a3l a3s a4l a4s
  go_wp2_with fail
  clear e0 e1 e2 e3 e4 e5
  refine wp_region_quiet_below (by kernel_rfl) (by kernel_rfl) ?_
  repeat (first | go_big_quiet_step (first | with_reducible exact d12 _ _) | quiet_step (first | with_reducible exact d12 _ _))
  refine wpQuiet_nil ?_
  intro _ hw'
  obtain ⟨⟨dq, osq⟩, hw''⟩ := hw'
  subst hw''
  have hZ := below_regrown Y dq osq
  first | (change Exit.then _ _ Exit.normal _ (Sort.grow (redrawn Y dq) osq)) | skip
  generalize Sort.grow (redrawn Y dq) osq = Z at hZ ⊢
  have HBZ : Hid (Below w.heap.size w Z) := HBY.out.trans (hZ.mono HBY.out.size)
  clear i2 i3 i4 i5 d12 hVs hTY hFY hsh hnm hvs hvn hZ
  go_wp2
  go_ret
  exact ⟨_, rfl, HA.out, HBZ.out⟩
end Go.Proofs.YtichbejmelkjeaaGreatDoor

namespace Go.Proofs.YtichbejmelkjeaaGreatDoor
open Go.RowKit

set_option maxRecDepth 100000 in
set_option maxHeartbeats 2000000 in
theorem revent_1 (n vk vn : Int) (nm vs : ByteArray) (w : World) (hT : TW w) (hok : EvOk n vk vn nm vs) : Calls Tryz.prog 7 #[.agg #[.int .i64 1, .int .i64 n, .string nm, .int .i64 vk, .int .i64 vn, .string vs]] w (EvP 1 n vk vn nm vs w) := by
  obtain ⟨hn, hvn, hnm, hvs, hsh⟩ := hok
  have HR : Hid (evS 1 n nm.data.toList vk (Vs.showS vk vn vs).data.toList = evs.getD 1 [] ++ [32] ++ Lib.itoa n ++ ([])) := by show evS _ _ _ _ _ = _; unfold evS; rw [if_neg (by omega)]; rw [if_neg (by omega), if_neg (by omega), if_neg (by omega)]; rfl
  obtain ⟨X1, hX1⟩ : ∃ X1, w.alloc (.cells #[.int .i64 1, .int .i64 n, .string nm, .int .i64 vk, .int .i64 vn, .string vs] 27) = X1 := ⟨_, rfl⟩
  have B1 : Below w.heap.size w X1 := by rw [← hX1]; exact (Below.refl _ w).alloc (Nat.le_refl _) _
  have F1 : Full X1 w.heap.size 27 [.int .i64 1, .int .i64 n, .string nm, .int .i64 vk, .int .i64 vn, .string vs] := by rw [← hX1]; exact Full.new w _ _
  have e0 := (F1.cell 0 _ rfl).1
  have e1 := (F1.cell 1 _ rfl).1
  obtain ⟨x, hx⟩ : ∃ x : ByteArray, x = ⟨(evs.getD 1 []).toArray⟩ := ⟨_, rfl⟩
  have hi := (hT.next B1).re 1 (by omega) (by omega)
  rw [← hx] at hi
  have HX : Hid (x.data.toList = evs.getD 1 []) := by show x.data.toList = _; rw [hx]
  obtain ⟨S, hS⟩ : ∃ S : ByteArray, S = ⟨(Lib.itoa n).toArray⟩ := ⟨_, rfl⟩
  have HS : Hid (S.data.toList = Lib.itoa n) := by show S.data.toList = _; rw [hS]
  have HI : Hid (∀ W, Below X1.heap.size X1 W → TW W ∧ Below w.heap.size w W ∧ Full W w.heap.size 27 [.int .i64 1, .int .i64 n, .string nm, .int .i64 vk, .int .i64 vn, .string vs]) := fun W h => ⟨hT.next (B1.trans (h.mono B1.size)), B1.trans (h.mono B1.size), F1.next h⟩
  have hxs : x.size ≤ 10 := by rw [Lib.size_eq, HX.out]; decide
  have hSs : S.size ≤ 60 := by have := Lib.itoa_length_le n hn.1 hn.2; rw [Lib.size_eq, HS.out]; omega
  obtain ⟨y1, hy1, hy1l, hy1s⟩ := cat_exR x ⟨#[32]⟩ (by show x.size + 1 ≤ _; omega)
  obtain ⟨y2, hy2, hy2l, hy2s⟩ := cat_exR y1 S (by rw [hy1s]; show x.size + 1 + S.size ≤ _; omega)
  have hys : y2.size ≤ 80 := by rw [hy2s, hy1s]; show x.size + 1 + S.size ≤ _; omega
  have HY : Hid (y2.data.toList = evs.getD 1 [] ++ [32] ++ Lib.itoa n) := by show y2.data.toList = _; rw [hy2l, hy1l, HX.out, HS.out]
  have i0 := cell_regrown e0
  have i1 := cell_regrown e1
  have ih := cell_regrown hi
  have d11 : ∀ d os, Calls Tryz.prog 17 #[.int .i64 n] (Sort.grow (redrawn X1 d) os) fun e w'' => e = .returned (.string S) ∧ ∃ p : Regrown, w'' = Sort.grow (redrawn X1 p.d) p.os := fun d os => by
    rw [hS]
    exact Calls.regrown_of (itoa_fix n _ hn (HI.out _ (below_regrown X1 d os)).1.p10)
  clear hx hS hxs hSs hy1l hy1s hy2l hy2s hT B1 F1 HX HS hn
  go_enter Tryz.func7, Tryz.ntmps7
  go_wp2_with fail
  clear e0 e1 hi
  refine wp_region_quiet_below (by kernel_rfl) (by kernel_rfl) ?_
  repeat (first | go_big_quiet_step (first | with_reducible exact d11 _ _) | quiet_step (first | with_reducible exact d11 _ _))
  refine wpQuiet_nil ?_
  intro _ hw'
  obtain ⟨⟨dq, osq⟩, hw''⟩ := hw'
  subst hw''
  have hY := below_regrown X1 dq osq
  first | (change Exit.then _ _ Exit.normal _ (Sort.grow (redrawn X1 dq) osq)) | skip
  generalize Sort.grow (redrawn X1 dq) osq = Y at hY ⊢
  clear i0 i1 ih d11
  obtain ⟨hTY, hBY, hFY⟩ := HI.out Y hY
  have e0 := (hFY.cell 0 _ rfl).1
  have e1 := (hFY.cell 1 _ rfl).1
  have e2 := (hFY.cell 2 _ rfl).1
  have e3 := (hFY.cell 3 _ rfl).1
  have e4 := (hFY.cell 4 _ rfl).1
  have e5 := (hFY.cell 5 _ rfl).1
  have HBY : Hid (Below w.heap.size w Y) := hBY
  clear hy1 hy2 hY HI hX1 hBY
  clear hTY hFY hsh hnm hvs hvn
  go_wp2
  go_ret
  exact ⟨_, rfl, by rw [HR.out, HY.out, List.append_nil], HBY.out⟩
set_option maxRecDepth 100000 in
set_option maxHeartbeats 2000000 in
theorem revent_2 (n vk vn : Int) (nm vs : ByteArray) (w : World) (hT : TW w) (hok : EvOk n vk vn nm vs) : Calls Tryz.prog 7 #[.agg #[.int .i64 2, .int .i64 n, .string nm, .int .i64 vk, .int .i64 vn, .string vs]] w (EvP 2 n vk vn nm vs w) := by
  obtain ⟨hn, hvn, hnm, hvs, hsh⟩ := hok
  have HR : Hid (evS 2 n nm.data.toList vk (Vs.showS vk vn vs).data.toList = evs.getD 2 [] ++ [32] ++ Lib.itoa n ++ ([])) := by show evS _ _ _ _ _ = _; unfold evS; rw [if_neg (by omega)]; rw [if_neg (by omega), if_neg (by omega), if_neg (by omega)]; rfl
  obtain ⟨X1, hX1⟩ : ∃ X1, w.alloc (.cells #[.int .i64 2, .int .i64 n, .string nm, .int .i64 vk, .int .i64 vn, .string vs] 27) = X1 := ⟨_, rfl⟩
  have B1 : Below w.heap.size w X1 := by rw [← hX1]; exact (Below.refl _ w).alloc (Nat.le_refl _) _
  have F1 : Full X1 w.heap.size 27 [.int .i64 2, .int .i64 n, .string nm, .int .i64 vk, .int .i64 vn, .string vs] := by rw [← hX1]; exact Full.new w _ _
  have e0 := (F1.cell 0 _ rfl).1
  have e1 := (F1.cell 1 _ rfl).1
  obtain ⟨x, hx⟩ : ∃ x : ByteArray, x = ⟨(evs.getD 2 []).toArray⟩ := ⟨_, rfl⟩
  have hi := (hT.next B1).re 2 (by omega) (by omega)
  rw [← hx] at hi
  have HX : Hid (x.data.toList = evs.getD 2 []) := by show x.data.toList = _; rw [hx]
  obtain ⟨S, hS⟩ : ∃ S : ByteArray, S = ⟨(Lib.itoa n).toArray⟩ := ⟨_, rfl⟩
  have HS : Hid (S.data.toList = Lib.itoa n) := by show S.data.toList = _; rw [hS]
  have HI : Hid (∀ W, Below X1.heap.size X1 W → TW W ∧ Below w.heap.size w W ∧ Full W w.heap.size 27 [.int .i64 2, .int .i64 n, .string nm, .int .i64 vk, .int .i64 vn, .string vs]) := fun W h => ⟨hT.next (B1.trans (h.mono B1.size)), B1.trans (h.mono B1.size), F1.next h⟩
  have hxs : x.size ≤ 10 := by rw [Lib.size_eq, HX.out]; decide
  have hSs : S.size ≤ 60 := by have := Lib.itoa_length_le n hn.1 hn.2; rw [Lib.size_eq, HS.out]; omega
  obtain ⟨y1, hy1, hy1l, hy1s⟩ := cat_exR x ⟨#[32]⟩ (by show x.size + 1 ≤ _; omega)
  obtain ⟨y2, hy2, hy2l, hy2s⟩ := cat_exR y1 S (by rw [hy1s]; show x.size + 1 + S.size ≤ _; omega)
  have hys : y2.size ≤ 80 := by rw [hy2s, hy1s]; show x.size + 1 + S.size ≤ _; omega
  have HY : Hid (y2.data.toList = evs.getD 2 [] ++ [32] ++ Lib.itoa n) := by show y2.data.toList = _; rw [hy2l, hy1l, HX.out, HS.out]
  have i0 := cell_regrown e0
  have i1 := cell_regrown e1
  have ih := cell_regrown hi
  have d11 : ∀ d os, Calls Tryz.prog 17 #[.int .i64 n] (Sort.grow (redrawn X1 d) os) fun e w'' => e = .returned (.string S) ∧ ∃ p : Regrown, w'' = Sort.grow (redrawn X1 p.d) p.os := fun d os => by
    rw [hS]
    exact Calls.regrown_of (itoa_fix n _ hn (HI.out _ (below_regrown X1 d os)).1.p10)
  clear hx hS hxs hSs hy1l hy1s hy2l hy2s hT B1 F1 HX HS hn
  go_enter Tryz.func7, Tryz.ntmps7
  go_wp2_with fail
  clear e0 e1 hi
  refine wp_region_quiet_below (by kernel_rfl) (by kernel_rfl) ?_
  repeat (first | go_big_quiet_step (first | with_reducible exact d11 _ _) | quiet_step (first | with_reducible exact d11 _ _))
  refine wpQuiet_nil ?_
  intro _ hw'
  obtain ⟨⟨dq, osq⟩, hw''⟩ := hw'
  subst hw''
  have hY := below_regrown X1 dq osq
  first | (change Exit.then _ _ Exit.normal _ (Sort.grow (redrawn X1 dq) osq)) | skip
  generalize Sort.grow (redrawn X1 dq) osq = Y at hY ⊢
  clear i0 i1 ih d11
  obtain ⟨hTY, hBY, hFY⟩ := HI.out Y hY
  have e0 := (hFY.cell 0 _ rfl).1
  have e1 := (hFY.cell 1 _ rfl).1
  have e2 := (hFY.cell 2 _ rfl).1
  have e3 := (hFY.cell 3 _ rfl).1
  have e4 := (hFY.cell 4 _ rfl).1
  have e5 := (hFY.cell 5 _ rfl).1
  have HBY : Hid (Below w.heap.size w Y) := hBY
  clear hy1 hy2 hY HI hX1 hBY
  clear hTY hFY hsh hnm hvs hvn
  go_wp2
  go_ret
  exact ⟨_, rfl, by rw [HR.out, HY.out, List.append_nil], HBY.out⟩
set_option maxRecDepth 100000 in
set_option maxHeartbeats 2000000 in
theorem revent_3 (n vk vn : Int) (nm vs : ByteArray) (w : World) (hT : TW w) (hok : EvOk n vk vn nm vs) : Calls Tryz.prog 7 #[.agg #[.int .i64 3, .int .i64 n, .string nm, .int .i64 vk, .int .i64 vn, .string vs]] w (EvP 3 n vk vn nm vs w) := by
  obtain ⟨hn, hvn, hnm, hvs, hsh⟩ := hok
  have HR : Hid (evS 3 n nm.data.toList vk (Vs.showS vk vn vs).data.toList = evs.getD 3 [] ++ [32] ++ Lib.itoa n ++ ([])) := by show evS _ _ _ _ _ = _; unfold evS; rw [if_neg (by omega)]; rw [if_neg (by omega), if_neg (by omega), if_neg (by omega)]; rfl
  obtain ⟨X1, hX1⟩ : ∃ X1, w.alloc (.cells #[.int .i64 3, .int .i64 n, .string nm, .int .i64 vk, .int .i64 vn, .string vs] 27) = X1 := ⟨_, rfl⟩
  have B1 : Below w.heap.size w X1 := by rw [← hX1]; exact (Below.refl _ w).alloc (Nat.le_refl _) _
  have F1 : Full X1 w.heap.size 27 [.int .i64 3, .int .i64 n, .string nm, .int .i64 vk, .int .i64 vn, .string vs] := by rw [← hX1]; exact Full.new w _ _
  have e0 := (F1.cell 0 _ rfl).1
  have e1 := (F1.cell 1 _ rfl).1
  obtain ⟨x, hx⟩ : ∃ x : ByteArray, x = ⟨(evs.getD 3 []).toArray⟩ := ⟨_, rfl⟩
  have hi := (hT.next B1).re 3 (by omega) (by omega)
  rw [← hx] at hi
  have HX : Hid (x.data.toList = evs.getD 3 []) := by show x.data.toList = _; rw [hx]
  obtain ⟨S, hS⟩ : ∃ S : ByteArray, S = ⟨(Lib.itoa n).toArray⟩ := ⟨_, rfl⟩
  have HS : Hid (S.data.toList = Lib.itoa n) := by show S.data.toList = _; rw [hS]
  have HI : Hid (∀ W, Below X1.heap.size X1 W → TW W ∧ Below w.heap.size w W ∧ Full W w.heap.size 27 [.int .i64 3, .int .i64 n, .string nm, .int .i64 vk, .int .i64 vn, .string vs]) := fun W h => ⟨hT.next (B1.trans (h.mono B1.size)), B1.trans (h.mono B1.size), F1.next h⟩
  have hxs : x.size ≤ 10 := by rw [Lib.size_eq, HX.out]; decide
  have hSs : S.size ≤ 60 := by have := Lib.itoa_length_le n hn.1 hn.2; rw [Lib.size_eq, HS.out]; omega
  obtain ⟨y1, hy1, hy1l, hy1s⟩ := cat_exR x ⟨#[32]⟩ (by show x.size + 1 ≤ _; omega)
  obtain ⟨y2, hy2, hy2l, hy2s⟩ := cat_exR y1 S (by rw [hy1s]; show x.size + 1 + S.size ≤ _; omega)
  have hys : y2.size ≤ 80 := by rw [hy2s, hy1s]; show x.size + 1 + S.size ≤ _; omega
  have HY : Hid (y2.data.toList = evs.getD 3 [] ++ [32] ++ Lib.itoa n) := by show y2.data.toList = _; rw [hy2l, hy1l, HX.out, HS.out]
  have i0 := cell_regrown e0
  have i1 := cell_regrown e1
  have ih := cell_regrown hi
  have d11 : ∀ d os, Calls Tryz.prog 17 #[.int .i64 n] (Sort.grow (redrawn X1 d) os) fun e w'' => e = .returned (.string S) ∧ ∃ p : Regrown, w'' = Sort.grow (redrawn X1 p.d) p.os := fun d os => by
    rw [hS]
    exact Calls.regrown_of (itoa_fix n _ hn (HI.out _ (below_regrown X1 d os)).1.p10)
  clear hx hS hxs hSs hy1l hy1s hy2l hy2s hT B1 F1 HX HS hn
  go_enter Tryz.func7, Tryz.ntmps7
  go_wp2_with fail
  clear e0 e1 hi
  refine wp_region_quiet_below (by kernel_rfl) (by kernel_rfl) ?_
  repeat (first | go_big_quiet_step (first | with_reducible exact d11 _ _) | quiet_step (first | with_reducible exact d11 _ _))
  refine wpQuiet_nil ?_
  intro _ hw'
  obtain ⟨⟨dq, osq⟩, hw''⟩ := hw'
  subst hw''
  have hY := below_regrown X1 dq osq
  first | (change Exit.then _ _ Exit.normal _ (Sort.grow (redrawn X1 dq) osq)) | skip
  generalize Sort.grow (redrawn X1 dq) osq = Y at hY ⊢
  clear i0 i1 ih d11
  obtain ⟨hTY, hBY, hFY⟩ := HI.out Y hY
  have e0 := (hFY.cell 0 _ rfl).1
  have e1 := (hFY.cell 1 _ rfl).1
  have e2 := (hFY.cell 2 _ rfl).1
  have e3 := (hFY.cell 3 _ rfl).1
  have e4 := (hFY.cell 4 _ rfl).1
  have e5 := (hFY.cell 5 _ rfl).1
  have HBY : Hid (Below w.heap.size w Y) := hBY
  clear hy1 hy2 hY HI hX1 hBY
  clear hTY hFY hsh hnm hvs hvn
  go_wp2
  go_ret
  exact ⟨_, rfl, by rw [HR.out, HY.out, List.append_nil], HBY.out⟩
set_option maxRecDepth 100000 in
set_option maxHeartbeats 2000000 in
theorem revent_4 (n vk vn : Int) (nm vs : ByteArray) (w : World) (hT : TW w) (hok : EvOk n vk vn nm vs) : Calls Tryz.prog 7 #[.agg #[.int .i64 4, .int .i64 n, .string nm, .int .i64 vk, .int .i64 vn, .string vs]] w (EvP 4 n vk vn nm vs w) := by
  obtain ⟨hn, hvn, hnm, hvs, hsh⟩ := hok
  have HR : Hid (evS 4 n nm.data.toList vk (Vs.showS vk vn vs).data.toList = evs.getD 4 [] ++ [32] ++ Lib.itoa n ++ ([32] ++ nm.data.toList)) := by show evS _ _ _ _ _ = _; unfold evS; rw [if_neg (by omega)]; rfl
  obtain ⟨X1, hX1⟩ : ∃ X1, w.alloc (.cells #[.int .i64 4, .int .i64 n, .string nm, .int .i64 vk, .int .i64 vn, .string vs] 27) = X1 := ⟨_, rfl⟩
  have B1 : Below w.heap.size w X1 := by rw [← hX1]; exact (Below.refl _ w).alloc (Nat.le_refl _) _
  have F1 : Full X1 w.heap.size 27 [.int .i64 4, .int .i64 n, .string nm, .int .i64 vk, .int .i64 vn, .string vs] := by rw [← hX1]; exact Full.new w _ _
  have e0 := (F1.cell 0 _ rfl).1
  have e1 := (F1.cell 1 _ rfl).1
  obtain ⟨x, hx⟩ : ∃ x : ByteArray, x = ⟨(evs.getD 4 []).toArray⟩ := ⟨_, rfl⟩
  have hi := (hT.next B1).re 4 (by omega) (by omega)
  rw [← hx] at hi
  have HX : Hid (x.data.toList = evs.getD 4 []) := by show x.data.toList = _; rw [hx]
  obtain ⟨S, hS⟩ : ∃ S : ByteArray, S = ⟨(Lib.itoa n).toArray⟩ := ⟨_, rfl⟩
  have HS : Hid (S.data.toList = Lib.itoa n) := by show S.data.toList = _; rw [hS]
  have HI : Hid (∀ W, Below X1.heap.size X1 W → TW W ∧ Below w.heap.size w W ∧ Full W w.heap.size 27 [.int .i64 4, .int .i64 n, .string nm, .int .i64 vk, .int .i64 vn, .string vs]) := fun W h => ⟨hT.next (B1.trans (h.mono B1.size)), B1.trans (h.mono B1.size), F1.next h⟩
  have hxs : x.size ≤ 10 := by rw [Lib.size_eq, HX.out]; decide
  have hSs : S.size ≤ 60 := by have := Lib.itoa_length_le n hn.1 hn.2; rw [Lib.size_eq, HS.out]; omega
  obtain ⟨y1, hy1, hy1l, hy1s⟩ := cat_exR x ⟨#[32]⟩ (by show x.size + 1 ≤ _; omega)
  obtain ⟨y2, hy2, hy2l, hy2s⟩ := cat_exR y1 S (by rw [hy1s]; show x.size + 1 + S.size ≤ _; omega)
  have hys : y2.size ≤ 80 := by rw [hy2s, hy1s]; show x.size + 1 + S.size ≤ _; omega
  have HY : Hid (y2.data.toList = evs.getD 4 [] ++ [32] ++ Lib.itoa n) := by show y2.data.toList = _; rw [hy2l, hy1l, HX.out, HS.out]
  have i0 := cell_regrown e0
  have i1 := cell_regrown e1
  have ih := cell_regrown hi
  have d11 : ∀ d os, Calls Tryz.prog 17 #[.int .i64 n] (Sort.grow (redrawn X1 d) os) fun e w'' => e = .returned (.string S) ∧ ∃ p : Regrown, w'' = Sort.grow (redrawn X1 p.d) p.os := fun d os => by
    rw [hS]
    exact Calls.regrown_of (itoa_fix n _ hn (HI.out _ (below_regrown X1 d os)).1.p10)
  clear hx hS hxs hSs hy1l hy1s hy2l hy2s hT B1 F1 HX HS hn
  go_enter Tryz.func7, Tryz.ntmps7
  go_wp2_with fail
  clear e0 e1 hi
  refine wp_region_quiet_below (by kernel_rfl) (by kernel_rfl) ?_
  repeat (first | go_big_quiet_step (first | with_reducible exact d11 _ _) | quiet_step (first | with_reducible exact d11 _ _))
  refine wpQuiet_nil ?_
  intro _ hw'
  obtain ⟨⟨dq, osq⟩, hw''⟩ := hw'
  subst hw''
  have hY := below_regrown X1 dq osq
  first | (change Exit.then _ _ Exit.normal _ (Sort.grow (redrawn X1 dq) osq)) | skip
  generalize Sort.grow (redrawn X1 dq) osq = Y at hY ⊢
  clear i0 i1 ih d11
  obtain ⟨hTY, hBY, hFY⟩ := HI.out Y hY
  have e0 := (hFY.cell 0 _ rfl).1
  have e1 := (hFY.cell 1 _ rfl).1
  have e2 := (hFY.cell 2 _ rfl).1
  have e3 := (hFY.cell 3 _ rfl).1
  have e4 := (hFY.cell 4 _ rfl).1
  have e5 := (hFY.cell 5 _ rfl).1
  have HBY : Hid (Below w.heap.size w Y) := hBY
  clear hy1 hy2 hY HI hX1 hBY
  have hz1 : y2.size + (⟨#[32]⟩ : ByteArray).size ≤ 9223372036854775807 := by show y2.size + 1 ≤ _; omega
  have hz2 : (y2 ++ (⟨#[32]⟩ : ByteArray)).size + nm.size ≤ 9223372036854775807 := by rw [ByteArray.size_append]; show _ + 1 + nm.size ≤ _; omega
  clear hTY hFY hsh hnm hvs hvn
  go_wp2
  go_ret
  exact ⟨_, rfl, by rw [HR.out, cat_list, cat_list, HY.out]; try simp, HBY.out⟩
set_option maxRecDepth 100000 in
set_option maxHeartbeats 2000000 in
theorem revent_5 (n vk vn : Int) (nm vs : ByteArray) (w : World) (hT : TW w) (hok : EvOk n vk vn nm vs) : Calls Tryz.prog 7 #[.agg #[.int .i64 5, .int .i64 n, .string nm, .int .i64 vk, .int .i64 vn, .string vs]] w (EvP 5 n vk vn nm vs w) := by
  obtain ⟨hn, hvn, hnm, hvs, hsh⟩ := hok
  have HR : Hid (evS 5 n nm.data.toList vk (Vs.showS vk vn vs).data.toList = evs.getD 5 [] ++ [32] ++ Lib.itoa n ++ ([])) := by show evS _ _ _ _ _ = _; unfold evS; rw [if_neg (by omega)]; rw [if_neg (by omega), if_neg (by omega), if_neg (by omega)]; rfl
  obtain ⟨X1, hX1⟩ : ∃ X1, w.alloc (.cells #[.int .i64 5, .int .i64 n, .string nm, .int .i64 vk, .int .i64 vn, .string vs] 27) = X1 := ⟨_, rfl⟩
  have B1 : Below w.heap.size w X1 := by rw [← hX1]; exact (Below.refl _ w).alloc (Nat.le_refl _) _
  have F1 : Full X1 w.heap.size 27 [.int .i64 5, .int .i64 n, .string nm, .int .i64 vk, .int .i64 vn, .string vs] := by rw [← hX1]; exact Full.new w _ _
  have e0 := (F1.cell 0 _ rfl).1
  have e1 := (F1.cell 1 _ rfl).1
  obtain ⟨x, hx⟩ : ∃ x : ByteArray, x = ⟨(evs.getD 5 []).toArray⟩ := ⟨_, rfl⟩
  have hi := (hT.next B1).re 5 (by omega) (by omega)
  rw [← hx] at hi
  have HX : Hid (x.data.toList = evs.getD 5 []) := by show x.data.toList = _; rw [hx]
  obtain ⟨S, hS⟩ : ∃ S : ByteArray, S = ⟨(Lib.itoa n).toArray⟩ := ⟨_, rfl⟩
  have HS : Hid (S.data.toList = Lib.itoa n) := by show S.data.toList = _; rw [hS]
  have HI : Hid (∀ W, Below X1.heap.size X1 W → TW W ∧ Below w.heap.size w W ∧ Full W w.heap.size 27 [.int .i64 5, .int .i64 n, .string nm, .int .i64 vk, .int .i64 vn, .string vs]) := fun W h => ⟨hT.next (B1.trans (h.mono B1.size)), B1.trans (h.mono B1.size), F1.next h⟩
  have hxs : x.size ≤ 10 := by rw [Lib.size_eq, HX.out]; decide
  have hSs : S.size ≤ 60 := by have := Lib.itoa_length_le n hn.1 hn.2; rw [Lib.size_eq, HS.out]; omega
  obtain ⟨y1, hy1, hy1l, hy1s⟩ := cat_exR x ⟨#[32]⟩ (by show x.size + 1 ≤ _; omega)
  obtain ⟨y2, hy2, hy2l, hy2s⟩ := cat_exR y1 S (by rw [hy1s]; show x.size + 1 + S.size ≤ _; omega)
  have hys : y2.size ≤ 80 := by rw [hy2s, hy1s]; show x.size + 1 + S.size ≤ _; omega
  have HY : Hid (y2.data.toList = evs.getD 5 [] ++ [32] ++ Lib.itoa n) := by show y2.data.toList = _; rw [hy2l, hy1l, HX.out, HS.out]
  have i0 := cell_regrown e0
  have i1 := cell_regrown e1
  have ih := cell_regrown hi
  have d11 : ∀ d os, Calls Tryz.prog 17 #[.int .i64 n] (Sort.grow (redrawn X1 d) os) fun e w'' => e = .returned (.string S) ∧ ∃ p : Regrown, w'' = Sort.grow (redrawn X1 p.d) p.os := fun d os => by
    rw [hS]
    exact Calls.regrown_of (itoa_fix n _ hn (HI.out _ (below_regrown X1 d os)).1.p10)
  clear hx hS hxs hSs hy1l hy1s hy2l hy2s hT B1 F1 HX HS hn
  go_enter Tryz.func7, Tryz.ntmps7
  go_wp2_with fail
  clear e0 e1 hi
  refine wp_region_quiet_below (by kernel_rfl) (by kernel_rfl) ?_
  repeat (first | go_big_quiet_step (first | with_reducible exact d11 _ _) | quiet_step (first | with_reducible exact d11 _ _))
  refine wpQuiet_nil ?_
  intro _ hw'
  obtain ⟨⟨dq, osq⟩, hw''⟩ := hw'
  subst hw''
  have hY := below_regrown X1 dq osq
  first | (change Exit.then _ _ Exit.normal _ (Sort.grow (redrawn X1 dq) osq)) | skip
  generalize Sort.grow (redrawn X1 dq) osq = Y at hY ⊢
  clear i0 i1 ih d11
  obtain ⟨hTY, hBY, hFY⟩ := HI.out Y hY
  have e0 := (hFY.cell 0 _ rfl).1
  have e1 := (hFY.cell 1 _ rfl).1
  have e2 := (hFY.cell 2 _ rfl).1
  have e3 := (hFY.cell 3 _ rfl).1
  have e4 := (hFY.cell 4 _ rfl).1
  have e5 := (hFY.cell 5 _ rfl).1
  have HBY : Hid (Below w.heap.size w Y) := hBY
  clear hy1 hy2 hY HI hX1 hBY
  clear hTY hFY hsh hnm hvs hvn
  go_wp2
  go_ret
  exact ⟨_, rfl, by rw [HR.out, HY.out, List.append_nil], HBY.out⟩
set_option maxRecDepth 100000 in
set_option maxHeartbeats 2000000 in
theorem revent_6z (n vn : Int) (nm vs : ByteArray) (w : World) (hT : TW w) (hok : EvOk n 0 vn nm vs) : Calls Tryz.prog 7 #[.agg #[.int .i64 6, .int .i64 n, .string nm, .int .i64 0, .int .i64 vn, .string vs]] w (EvP 6 n 0 vn nm vs w) := by
  obtain ⟨hn, hvn, hnm, hvs, hsh⟩ := hok
  have HR : Hid (evS 6 n nm.data.toList 0 (Vs.showS 0 vn vs).data.toList = evs.getD 6 [] ++ [32] ++ Lib.itoa n ++ ([])) := by show evS _ _ _ _ _ = _; unfold evS; rw [if_neg (by omega)]; rfl
  obtain ⟨X1, hX1⟩ : ∃ X1, w.alloc (.cells #[.int .i64 6, .int .i64 n, .string nm, .int .i64 0, .int .i64 vn, .string vs] 27) = X1 := ⟨_, rfl⟩
  have B1 : Below w.heap.size w X1 := by rw [← hX1]; exact (Below.refl _ w).alloc (Nat.le_refl _) _
  have F1 : Full X1 w.heap.size 27 [.int .i64 6, .int .i64 n, .string nm, .int .i64 0, .int .i64 vn, .string vs] := by rw [← hX1]; exact Full.new w _ _
  have e0 := (F1.cell 0 _ rfl).1
  have e1 := (F1.cell 1 _ rfl).1
  obtain ⟨x, hx⟩ : ∃ x : ByteArray, x = ⟨(evs.getD 6 []).toArray⟩ := ⟨_, rfl⟩
  have hi := (hT.next B1).re 6 (by omega) (by omega)
  rw [← hx] at hi
  have HX : Hid (x.data.toList = evs.getD 6 []) := by show x.data.toList = _; rw [hx]
  obtain ⟨S, hS⟩ : ∃ S : ByteArray, S = ⟨(Lib.itoa n).toArray⟩ := ⟨_, rfl⟩
  have HS : Hid (S.data.toList = Lib.itoa n) := by show S.data.toList = _; rw [hS]
  have HI : Hid (∀ W, Below X1.heap.size X1 W → TW W ∧ Below w.heap.size w W ∧ Full W w.heap.size 27 [.int .i64 6, .int .i64 n, .string nm, .int .i64 0, .int .i64 vn, .string vs]) := fun W h => ⟨hT.next (B1.trans (h.mono B1.size)), B1.trans (h.mono B1.size), F1.next h⟩
  have hxs : x.size ≤ 10 := by rw [Lib.size_eq, HX.out]; decide
  have hSs : S.size ≤ 60 := by have := Lib.itoa_length_le n hn.1 hn.2; rw [Lib.size_eq, HS.out]; omega
  obtain ⟨y1, hy1, hy1l, hy1s⟩ := cat_exR x ⟨#[32]⟩ (by show x.size + 1 ≤ _; omega)
  obtain ⟨y2, hy2, hy2l, hy2s⟩ := cat_exR y1 S (by rw [hy1s]; show x.size + 1 + S.size ≤ _; omega)
  have hys : y2.size ≤ 80 := by rw [hy2s, hy1s]; show x.size + 1 + S.size ≤ _; omega
  have HY : Hid (y2.data.toList = evs.getD 6 [] ++ [32] ++ Lib.itoa n) := by show y2.data.toList = _; rw [hy2l, hy1l, HX.out, HS.out]
  have i0 := cell_regrown e0
  have i1 := cell_regrown e1
  have ih := cell_regrown hi
  have d11 : ∀ d os, Calls Tryz.prog 17 #[.int .i64 n] (Sort.grow (redrawn X1 d) os) fun e w'' => e = .returned (.string S) ∧ ∃ p : Regrown, w'' = Sort.grow (redrawn X1 p.d) p.os := fun d os => by
    rw [hS]
    exact Calls.regrown_of (itoa_fix n _ hn (HI.out _ (below_regrown X1 d os)).1.p10)
  clear hx hS hxs hSs hy1l hy1s hy2l hy2s hT B1 F1 HX HS hn
  go_enter Tryz.func7, Tryz.ntmps7
  go_wp2_with fail
  clear e0 e1 hi
  refine wp_region_quiet_below (by kernel_rfl) (by kernel_rfl) ?_
  repeat (first | go_big_quiet_step (first | with_reducible exact d11 _ _) | quiet_step (first | with_reducible exact d11 _ _))
  refine wpQuiet_nil ?_
  intro _ hw'
  obtain ⟨⟨dq, osq⟩, hw''⟩ := hw'
  subst hw''
  have hY := below_regrown X1 dq osq
  first | (change Exit.then _ _ Exit.normal _ (Sort.grow (redrawn X1 dq) osq)) | skip
  generalize Sort.grow (redrawn X1 dq) osq = Y at hY ⊢
  clear i0 i1 ih d11
  obtain ⟨hTY, hBY, hFY⟩ := HI.out Y hY
  have e0 := (hFY.cell 0 _ rfl).1
  have e1 := (hFY.cell 1 _ rfl).1
  have e2 := (hFY.cell 2 _ rfl).1
  have e3 := (hFY.cell 3 _ rfl).1
  have e4 := (hFY.cell 4 _ rfl).1
  have e5 := (hFY.cell 5 _ rfl).1
  have HBY : Hid (Below w.heap.size w Y) := hBY
  clear hy1 hy2 hY HI hX1 hBY
  clear hTY hFY hsh hnm hvs hvn
  go_wp2
  go_ret
  exact ⟨_, rfl, by rw [HR.out, HY.out, List.append_nil], HBY.out⟩
set_option maxRecDepth 100000 in
set_option maxHeartbeats 2000000 in
theorem revent_6 (n vk vn : Int) (nm vs : ByteArray) (w : World) (hT : TW w) (hok : EvOk n vk vn nm vs) (hk : (vk == 0) = false) : Calls Tryz.prog 7 #[.agg #[.int .i64 6, .int .i64 n, .string nm, .int .i64 vk, .int .i64 vn, .string vs]] w (EvP 6 n vk vn nm vs w) := by
  have HK : Hid (vk ≠ 0) := by show vk ≠ 0; intro q; rw [q] at hk; cases hk
  obtain ⟨hn, hvn, hnm, hvs, hsh⟩ := hok
  have HR : Hid (evS 6 n nm.data.toList vk (Vs.showS vk vn vs).data.toList = evs.getD 6 [] ++ [32] ++ Lib.itoa n ++ ([32, 61, 32] ++ (Vs.showS vk vn vs).data.toList)) := by show evS _ _ _ _ _ = _; unfold evS; rw [if_neg (by omega)]; rw [if_neg (by omega), if_pos rfl, if_neg HK.out]; rfl
  obtain ⟨X1, hX1⟩ : ∃ X1, w.alloc (.cells #[.int .i64 6, .int .i64 n, .string nm, .int .i64 vk, .int .i64 vn, .string vs] 27) = X1 := ⟨_, rfl⟩
  have B1 : Below w.heap.size w X1 := by rw [← hX1]; exact (Below.refl _ w).alloc (Nat.le_refl _) _
  have F1 : Full X1 w.heap.size 27 [.int .i64 6, .int .i64 n, .string nm, .int .i64 vk, .int .i64 vn, .string vs] := by rw [← hX1]; exact Full.new w _ _
  have e0 := (F1.cell 0 _ rfl).1
  have e1 := (F1.cell 1 _ rfl).1
  obtain ⟨x, hx⟩ : ∃ x : ByteArray, x = ⟨(evs.getD 6 []).toArray⟩ := ⟨_, rfl⟩
  have hi := (hT.next B1).re 6 (by omega) (by omega)
  rw [← hx] at hi
  have HX : Hid (x.data.toList = evs.getD 6 []) := by show x.data.toList = _; rw [hx]
  obtain ⟨S, hS⟩ : ∃ S : ByteArray, S = ⟨(Lib.itoa n).toArray⟩ := ⟨_, rfl⟩
  have HS : Hid (S.data.toList = Lib.itoa n) := by show S.data.toList = _; rw [hS]
  have HI : Hid (∀ W, Below X1.heap.size X1 W → TW W ∧ Below w.heap.size w W ∧ Full W w.heap.size 27 [.int .i64 6, .int .i64 n, .string nm, .int .i64 vk, .int .i64 vn, .string vs]) := fun W h => ⟨hT.next (B1.trans (h.mono B1.size)), B1.trans (h.mono B1.size), F1.next h⟩
  have hxs : x.size ≤ 10 := by rw [Lib.size_eq, HX.out]; decide
  have hSs : S.size ≤ 60 := by have := Lib.itoa_length_le n hn.1 hn.2; rw [Lib.size_eq, HS.out]; omega
  obtain ⟨y1, hy1, hy1l, hy1s⟩ := cat_exR x ⟨#[32]⟩ (by show x.size + 1 ≤ _; omega)
  obtain ⟨y2, hy2, hy2l, hy2s⟩ := cat_exR y1 S (by rw [hy1s]; show x.size + 1 + S.size ≤ _; omega)
  have hys : y2.size ≤ 80 := by rw [hy2s, hy1s]; show x.size + 1 + S.size ≤ _; omega
  have HY : Hid (y2.data.toList = evs.getD 6 [] ++ [32] ++ Lib.itoa n) := by show y2.data.toList = _; rw [hy2l, hy1l, HX.out, HS.out]
  have i0 := cell_regrown e0
  have i1 := cell_regrown e1
  have ih := cell_regrown hi
  have d11 : ∀ d os, Calls Tryz.prog 17 #[.int .i64 n] (Sort.grow (redrawn X1 d) os) fun e w'' => e = .returned (.string S) ∧ ∃ p : Regrown, w'' = Sort.grow (redrawn X1 p.d) p.os := fun d os => by
    rw [hS]
    exact Calls.regrown_of (itoa_fix n _ hn (HI.out _ (below_regrown X1 d os)).1.p10)
  clear hx hS hxs hSs hy1l hy1s hy2l hy2s hT B1 F1 HX HS hn
  go_enter Tryz.func7, Tryz.ntmps7
  go_wp2_with fail
  clear e0 e1 hi
  refine wp_region_quiet_below (by kernel_rfl) (by kernel_rfl) ?_
  repeat (first | go_big_quiet_step (first | with_reducible exact d11 _ _) | quiet_step (first | with_reducible exact d11 _ _))
  refine wpQuiet_nil ?_
  intro _ hw'
  obtain ⟨⟨dq, osq⟩, hw''⟩ := hw'
  subst hw''
  have hY := below_regrown X1 dq osq
  first | (change Exit.then _ _ Exit.normal _ (Sort.grow (redrawn X1 dq) osq)) | skip
  generalize Sort.grow (redrawn X1 dq) osq = Y at hY ⊢
  clear i0 i1 ih d11
  obtain ⟨hTY, hBY, hFY⟩ := HI.out Y hY
  have e0 := (hFY.cell 0 _ rfl).1
  have e1 := (hFY.cell 1 _ rfl).1
  have e2 := (hFY.cell 2 _ rfl).1
  have e3 := (hFY.cell 3 _ rfl).1
  have e4 := (hFY.cell 4 _ rfl).1
  have e5 := (hFY.cell 5 _ rfl).1
  have HBY : Hid (Below w.heap.size w Y) := hBY
  clear hy1 hy2 hY HI hX1 hBY
  obtain ⟨V, hV⟩ : ∃ V : ByteArray, V = Vs.showS vk vn vs := ⟨_, rfl⟩
  have HV : Hid (V.data.toList = (Vs.showS vk vn vs).data.toList) := by show V.data.toList = _; rw [hV]
  have hVs : V.size ≤ 10000 := by rw [hV]; exact hsh
  have C := Vs.rshow_any vk vn vs Y (by omega) hvn hTY.p10
  rw [← hV] at C
  have hz1 : y2.size + (⟨#[32, 61, 32]⟩ : ByteArray).size ≤ 9223372036854775807 := by show y2.size + 3 ≤ _; omega
  have hz2 : (y2 ++ (⟨#[32, 61, 32]⟩ : ByteArray)).size + V.size ≤ 9223372036854775807 := by rw [ByteArray.size_append]; show y2.size + 3 + V.size ≤ _; omega
  clear hV hVs hTY hFY hsh hnm hvs hvn
  go_wp2_with fail
  refine C.mono ?_
  rintro e w3 ⟨rfl, hb⟩
  have HBZ : Hid (Below w.heap.size w w3) := HBY.out.trans (hb.mono HBY.out.size)
  clear hb C e0 e1 e2 e3 e4 e5
  go_wp2
  go_ret
  exact ⟨_, rfl, by rw [HR.out, cat_list, cat_list, HY.out, HV.out]; try simp, HBZ.out⟩
set_option maxRecDepth 100000 in
set_option maxHeartbeats 2000000 in
theorem revent_7 (n vk vn : Int) (nm vs : ByteArray) (w : World) (hT : TW w) (hok : EvOk n vk vn nm vs) : Calls Tryz.prog 7 #[.agg #[.int .i64 7, .int .i64 n, .string nm, .int .i64 vk, .int .i64 vn, .string vs]] w (EvP 7 n vk vn nm vs w) := by
  obtain ⟨hn, hvn, hnm, hvs, hsh⟩ := hok
  have HR : Hid (evS 7 n nm.data.toList vk (Vs.showS vk vn vs).data.toList = evs.getD 7 [] ++ [32] ++ Lib.itoa n ++ ([32] ++ nm.data.toList ++ [32, 61, 32] ++ (Vs.showS vk vn vs).data.toList)) := by show evS _ _ _ _ _ = _; unfold evS; rw [if_neg (by omega)]; rw [if_neg (by omega), if_neg (by omega), if_pos (by omega)]; rfl
  obtain ⟨X1, hX1⟩ : ∃ X1, w.alloc (.cells #[.int .i64 7, .int .i64 n, .string nm, .int .i64 vk, .int .i64 vn, .string vs] 27) = X1 := ⟨_, rfl⟩
  have B1 : Below w.heap.size w X1 := by rw [← hX1]; exact (Below.refl _ w).alloc (Nat.le_refl _) _
  have F1 : Full X1 w.heap.size 27 [.int .i64 7, .int .i64 n, .string nm, .int .i64 vk, .int .i64 vn, .string vs] := by rw [← hX1]; exact Full.new w _ _
  have e0 := (F1.cell 0 _ rfl).1
  have e1 := (F1.cell 1 _ rfl).1
  obtain ⟨x, hx⟩ : ∃ x : ByteArray, x = ⟨(evs.getD 7 []).toArray⟩ := ⟨_, rfl⟩
  have hi := (hT.next B1).re 7 (by omega) (by omega)
  rw [← hx] at hi
  have HX : Hid (x.data.toList = evs.getD 7 []) := by show x.data.toList = _; rw [hx]
  obtain ⟨S, hS⟩ : ∃ S : ByteArray, S = ⟨(Lib.itoa n).toArray⟩ := ⟨_, rfl⟩
  have HS : Hid (S.data.toList = Lib.itoa n) := by show S.data.toList = _; rw [hS]
  have HI : Hid (∀ W, Below X1.heap.size X1 W → TW W ∧ Below w.heap.size w W ∧ Full W w.heap.size 27 [.int .i64 7, .int .i64 n, .string nm, .int .i64 vk, .int .i64 vn, .string vs]) := fun W h => ⟨hT.next (B1.trans (h.mono B1.size)), B1.trans (h.mono B1.size), F1.next h⟩
  have hxs : x.size ≤ 10 := by rw [Lib.size_eq, HX.out]; decide
  have hSs : S.size ≤ 60 := by have := Lib.itoa_length_le n hn.1 hn.2; rw [Lib.size_eq, HS.out]; omega
  obtain ⟨y1, hy1, hy1l, hy1s⟩ := cat_exR x ⟨#[32]⟩ (by show x.size + 1 ≤ _; omega)
  obtain ⟨y2, hy2, hy2l, hy2s⟩ := cat_exR y1 S (by rw [hy1s]; show x.size + 1 + S.size ≤ _; omega)
  have hys : y2.size ≤ 80 := by rw [hy2s, hy1s]; show x.size + 1 + S.size ≤ _; omega
  have HY : Hid (y2.data.toList = evs.getD 7 [] ++ [32] ++ Lib.itoa n) := by show y2.data.toList = _; rw [hy2l, hy1l, HX.out, HS.out]
  have i0 := cell_regrown e0
  have i1 := cell_regrown e1
  have ih := cell_regrown hi
  have d11 : ∀ d os, Calls Tryz.prog 17 #[.int .i64 n] (Sort.grow (redrawn X1 d) os) fun e w'' => e = .returned (.string S) ∧ ∃ p : Regrown, w'' = Sort.grow (redrawn X1 p.d) p.os := fun d os => by
    rw [hS]
    exact Calls.regrown_of (itoa_fix n _ hn (HI.out _ (below_regrown X1 d os)).1.p10)
  clear hx hS hxs hSs hy1l hy1s hy2l hy2s hT B1 F1 HX HS hn
  go_enter Tryz.func7, Tryz.ntmps7
  go_wp2_with fail
  clear e0 e1 hi
  refine wp_region_quiet_below (by kernel_rfl) (by kernel_rfl) ?_
  repeat (first | go_big_quiet_step (first | with_reducible exact d11 _ _) | quiet_step (first | with_reducible exact d11 _ _))
  refine wpQuiet_nil ?_
  intro _ hw'
  obtain ⟨⟨dq, osq⟩, hw''⟩ := hw'
  subst hw''
  have hY := below_regrown X1 dq osq
  first | (change Exit.then _ _ Exit.normal _ (Sort.grow (redrawn X1 dq) osq)) | skip
  generalize Sort.grow (redrawn X1 dq) osq = Y at hY ⊢
  clear i0 i1 ih d11
  obtain ⟨hTY, hBY, hFY⟩ := HI.out Y hY
  have e0 := (hFY.cell 0 _ rfl).1
  have e1 := (hFY.cell 1 _ rfl).1
  have e2 := (hFY.cell 2 _ rfl).1
  have e3 := (hFY.cell 3 _ rfl).1
  have e4 := (hFY.cell 4 _ rfl).1
  have e5 := (hFY.cell 5 _ rfl).1
  have HBY : Hid (Below w.heap.size w Y) := hBY
  clear hy1 hy2 hY HI hX1 hBY
  obtain ⟨V, hV⟩ : ∃ V : ByteArray, V = Vs.showS vk vn vs := ⟨_, rfl⟩
  have HV : Hid (V.data.toList = (Vs.showS vk vn vs).data.toList) := by show V.data.toList = _; rw [hV]
  have hVs : V.size ≤ 10000 := by rw [hV]; exact hsh
  have HT9 : Hid (TW Y) := hTY
  have d12 : ∀ d os, Calls Tryz.prog 19 #[.agg #[.int .i64 vk, .int .i64 vn, .string vs]] (Sort.grow (redrawn Y d) os) fun e w'' => e = .returned (.string V) ∧ ∃ p : Regrown, w'' = Sort.grow (redrawn Y p.d) p.os := fun d os => by
    rw [hV]
    exact Calls.regrown_of (Vs.rshow_any vk vn vs _ (by omega) hvn (HT9.out.next (below_regrown Y d os)).p10)
  have i2 := cell_regrown e2
  have i3 := cell_regrown e3
  have i4 := cell_regrown e4
  have i5 := cell_regrown e5
  obtain ⟨a1, ha1, a1l, a1s⟩ := cat_exR y2 ⟨#[32]⟩ (by show y2.size + 1 ≤ _; omega)
  obtain ⟨a2, ha2, a2l, a2s⟩ := cat_exR a1 nm (by rw [a1s]; show y2.size + 1 + nm.size ≤ _; omega)
  obtain ⟨a3, ha3, a3l, a3s⟩ := cat_exR a2 ⟨#[32, 61, 32]⟩ (by rw [a2s, a1s]; show y2.size + 1 + nm.size + 3 ≤ _; omega)
  obtain ⟨a4, ha4, a4l, a4s⟩ := cat_exR a3 V (by rw [a3s, a2s, a1s]; show y2.size + 1 + nm.size + 3 + V.size ≤ _; omega)
  have HA : Hid (a4.data.toList = evS 7 n nm.data.toList vk (Vs.showS vk vn vs).data.toList) := by show a4.data.toList = _; rw [HR.out, a4l, a3l, a2l, a1l, HY.out, HV.out]; try simp
  clear hV a1l a1s a2l a2s a3l a3s a4l a4s
  go_wp2_with fail
  clear e0 e1 e2 e3 e4 e5
  refine wp_region_quiet_below (by kernel_rfl) (by kernel_rfl) ?_
  repeat (first | go_big_quiet_step (first | with_reducible exact d12 _ _) | quiet_step (first | with_reducible exact d12 _ _))
  refine wpQuiet_nil ?_
  intro _ hw'
  obtain ⟨⟨dq, osq⟩, hw''⟩ := hw'
  subst hw''
  have hZ := below_regrown Y dq osq
  first | (change Exit.then _ _ Exit.normal _ (Sort.grow (redrawn Y dq) osq)) | skip
  generalize Sort.grow (redrawn Y dq) osq = Z at hZ ⊢
  have HBZ : Hid (Below w.heap.size w Z) := HBY.out.trans (hZ.mono HBY.out.size)
  clear i2 i3 i4 i5 d12 hVs hTY hFY hsh hnm hvs hvn hZ
  go_wp2
  go_ret
  exact ⟨_, rfl, HA.out, HBZ.out⟩
set_option maxRecDepth 100000 in
set_option maxHeartbeats 2000000 in
theorem revent_8 (n vk vn : Int) (nm vs : ByteArray) (w : World) (hT : TW w) (hok : EvOk n vk vn nm vs) : Calls Tryz.prog 7 #[.agg #[.int .i64 8, .int .i64 n, .string nm, .int .i64 vk, .int .i64 vn, .string vs]] w (EvP 8 n vk vn nm vs w) := by
  obtain ⟨hn, hvn, hnm, hvs, hsh⟩ := hok
  have HR : Hid (evS 8 n nm.data.toList vk (Vs.showS vk vn vs).data.toList = evs.getD 8 [] ++ [32] ++ Lib.itoa n ++ ([32] ++ nm.data.toList ++ [32, 61, 32] ++ (Vs.showS vk vn vs).data.toList)) := by show evS _ _ _ _ _ = _; unfold evS; rw [if_neg (by omega)]; rw [if_neg (by omega), if_neg (by omega), if_pos (by omega)]; rfl
  obtain ⟨X1, hX1⟩ : ∃ X1, w.alloc (.cells #[.int .i64 8, .int .i64 n, .string nm, .int .i64 vk, .int .i64 vn, .string vs] 27) = X1 := ⟨_, rfl⟩
  have B1 : Below w.heap.size w X1 := by rw [← hX1]; exact (Below.refl _ w).alloc (Nat.le_refl _) _
  have F1 : Full X1 w.heap.size 27 [.int .i64 8, .int .i64 n, .string nm, .int .i64 vk, .int .i64 vn, .string vs] := by rw [← hX1]; exact Full.new w _ _
  have e0 := (F1.cell 0 _ rfl).1
  have e1 := (F1.cell 1 _ rfl).1
  obtain ⟨x, hx⟩ : ∃ x : ByteArray, x = ⟨(evs.getD 8 []).toArray⟩ := ⟨_, rfl⟩
  have hi := (hT.next B1).re 8 (by omega) (by omega)
  rw [← hx] at hi
  have HX : Hid (x.data.toList = evs.getD 8 []) := by show x.data.toList = _; rw [hx]
  obtain ⟨S, hS⟩ : ∃ S : ByteArray, S = ⟨(Lib.itoa n).toArray⟩ := ⟨_, rfl⟩
  have HS : Hid (S.data.toList = Lib.itoa n) := by show S.data.toList = _; rw [hS]
  have HI : Hid (∀ W, Below X1.heap.size X1 W → TW W ∧ Below w.heap.size w W ∧ Full W w.heap.size 27 [.int .i64 8, .int .i64 n, .string nm, .int .i64 vk, .int .i64 vn, .string vs]) := fun W h => ⟨hT.next (B1.trans (h.mono B1.size)), B1.trans (h.mono B1.size), F1.next h⟩
  have hxs : x.size ≤ 10 := by rw [Lib.size_eq, HX.out]; decide
  have hSs : S.size ≤ 60 := by have := Lib.itoa_length_le n hn.1 hn.2; rw [Lib.size_eq, HS.out]; omega
  obtain ⟨y1, hy1, hy1l, hy1s⟩ := cat_exR x ⟨#[32]⟩ (by show x.size + 1 ≤ _; omega)
  obtain ⟨y2, hy2, hy2l, hy2s⟩ := cat_exR y1 S (by rw [hy1s]; show x.size + 1 + S.size ≤ _; omega)
  have hys : y2.size ≤ 80 := by rw [hy2s, hy1s]; show x.size + 1 + S.size ≤ _; omega
  have HY : Hid (y2.data.toList = evs.getD 8 [] ++ [32] ++ Lib.itoa n) := by show y2.data.toList = _; rw [hy2l, hy1l, HX.out, HS.out]
  have i0 := cell_regrown e0
  have i1 := cell_regrown e1
  have ih := cell_regrown hi
  have d11 : ∀ d os, Calls Tryz.prog 17 #[.int .i64 n] (Sort.grow (redrawn X1 d) os) fun e w'' => e = .returned (.string S) ∧ ∃ p : Regrown, w'' = Sort.grow (redrawn X1 p.d) p.os := fun d os => by
    rw [hS]
    exact Calls.regrown_of (itoa_fix n _ hn (HI.out _ (below_regrown X1 d os)).1.p10)
  clear hx hS hxs hSs hy1l hy1s hy2l hy2s hT B1 F1 HX HS hn
  go_enter Tryz.func7, Tryz.ntmps7
  go_wp2_with fail
  clear e0 e1 hi
  refine wp_region_quiet_below (by kernel_rfl) (by kernel_rfl) ?_
  repeat (first | go_big_quiet_step (first | with_reducible exact d11 _ _) | quiet_step (first | with_reducible exact d11 _ _))
  refine wpQuiet_nil ?_
  intro _ hw'
  obtain ⟨⟨dq, osq⟩, hw''⟩ := hw'
  subst hw''
  have hY := below_regrown X1 dq osq
  first | (change Exit.then _ _ Exit.normal _ (Sort.grow (redrawn X1 dq) osq)) | skip
  generalize Sort.grow (redrawn X1 dq) osq = Y at hY ⊢
  clear i0 i1 ih d11
  obtain ⟨hTY, hBY, hFY⟩ := HI.out Y hY
  have e0 := (hFY.cell 0 _ rfl).1
  have e1 := (hFY.cell 1 _ rfl).1
  have e2 := (hFY.cell 2 _ rfl).1
  have e3 := (hFY.cell 3 _ rfl).1
  have e4 := (hFY.cell 4 _ rfl).1
  have e5 := (hFY.cell 5 _ rfl).1
  have HBY : Hid (Below w.heap.size w Y) := hBY
  clear hy1 hy2 hY HI hX1 hBY
  obtain ⟨V, hV⟩ : ∃ V : ByteArray, V = Vs.showS vk vn vs := ⟨_, rfl⟩
  have HV : Hid (V.data.toList = (Vs.showS vk vn vs).data.toList) := by show V.data.toList = _; rw [hV]
  have hVs : V.size ≤ 10000 := by rw [hV]; exact hsh
  have HT9 : Hid (TW Y) := hTY
  have d12 : ∀ d os, Calls Tryz.prog 19 #[.agg #[.int .i64 vk, .int .i64 vn, .string vs]] (Sort.grow (redrawn Y d) os) fun e w'' => e = .returned (.string V) ∧ ∃ p : Regrown, w'' = Sort.grow (redrawn Y p.d) p.os := fun d os => by
    rw [hV]
    exact Calls.regrown_of (Vs.rshow_any vk vn vs _ (by omega) hvn (HT9.out.next (below_regrown Y d os)).p10)
  have i2 := cell_regrown e2
  have i3 := cell_regrown e3
  have i4 := cell_regrown e4
  have i5 := cell_regrown e5
  obtain ⟨a1, ha1, a1l, a1s⟩ := cat_exR y2 ⟨#[32]⟩ (by show y2.size + 1 ≤ _; omega)
  obtain ⟨a2, ha2, a2l, a2s⟩ := cat_exR a1 nm (by rw [a1s]; show y2.size + 1 + nm.size ≤ _; omega)
  obtain ⟨a3, ha3, a3l, a3s⟩ := cat_exR a2 ⟨#[32, 61, 32]⟩ (by rw [a2s, a1s]; show y2.size + 1 + nm.size + 3 ≤ _; omega)
  obtain ⟨a4, ha4, a4l, a4s⟩ := cat_exR a3 V (by rw [a3s, a2s, a1s]; show y2.size + 1 + nm.size + 3 + V.size ≤ _; omega)
  have HA : Hid (a4.data.toList = evS 8 n nm.data.toList vk (Vs.showS vk vn vs).data.toList) := by show a4.data.toList = _; rw [HR.out, a4l, a3l, a2l, a1l, HY.out, HV.out]; try simp
  clear hV a1l a1s a2l a2s a3l a3s a4l a4s
  go_wp2_with fail
  clear e0 e1 e2 e3 e4 e5
  refine wp_region_quiet_below (by kernel_rfl) (by kernel_rfl) ?_
  repeat (first | go_big_quiet_step (first | with_reducible exact d12 _ _) | quiet_step (first | with_reducible exact d12 _ _))
  refine wpQuiet_nil ?_
  intro _ hw'
  obtain ⟨⟨dq, osq⟩, hw''⟩ := hw'
  subst hw''
  have hZ := below_regrown Y dq osq
  first | (change Exit.then _ _ Exit.normal _ (Sort.grow (redrawn Y dq) osq)) | skip
  generalize Sort.grow (redrawn Y dq) osq = Z at hZ ⊢
  have HBZ : Hid (Below w.heap.size w Z) := HBY.out.trans (hZ.mono HBY.out.size)
  clear i2 i3 i4 i5 d12 hVs hTY hFY hsh hnm hvs hvn hZ
  go_wp2
  go_ret
  exact ⟨_, rfl, HA.out, HBZ.out⟩
end Go.Proofs.YtichbejmelkjeaaGreatDoor

namespace Go.Proofs.YtichbejmelkjeaaGreatDoor
open Go.RowKit

set_option maxRecDepth 100000 in
set_option maxHeartbeats 2000000 in
theorem event_any (k n vk vn : Int) (nm vs : ByteArray) (w : World) (hT : TW w) (hok : EvOk n vk vn nm vs) : Calls Tryz.prog 6 #[.agg #[.int .i64 k, .int .i64 n, .string nm, .int .i64 vk, .int .i64 vn, .string vs]] w (EvP k n vk vn nm vs w) := by
  by_cases hlo : k < 1
  · clear hT hok
    have HB : Hid (Below w.heap.size w (w.alloc (.cells #[.int .i64 k, .int .i64 n, .string nm, .int .i64 vk, .int .i64 vn, .string vs] 27))) := (Below.refl _ w).alloc (Nat.le_refl _) _
    have HR : Hid (evS k n nm.data.toList vk (Vs.showS vk vn vs).data.toList = [63]) := by show evS _ _ _ _ _ = _; unfold evS; rw [if_pos (.inl hlo)]
    go_enter Tryz.func6, Tryz.ntmps6
    go_wp2
    go_ret
    exact ⟨_, rfl, by rw [HR.out], HB.out⟩
  by_cases hhi : 8 < k
  · clear hT hok
    have HB : Hid (Below w.heap.size w (w.alloc (.cells #[.int .i64 k, .int .i64 n, .string nm, .int .i64 vk, .int .i64 vn, .string vs] 27))) := (Below.refl _ w).alloc (Nat.le_refl _) _
    have HR : Hid (evS k n nm.data.toList vk (Vs.showS vk vn vs).data.toList = [63]) := by show evS _ _ _ _ _ = _; unfold evS; rw [if_pos (.inr hhi)]
    go_enter Tryz.func6, Tryz.ntmps6
    go_wp2
    go_ret
    exact ⟨_, rfl, by rw [HR.out], HB.out⟩
  have h : k = 1 ∨ k = 2 ∨ k = 3 ∨ k = 4 ∨ k = 5 ∨ k = 6 ∨ k = 7 ∨ k = 8 := by omega
  rcases h with rfl | rfl | rfl | rfl | rfl | rfl | rfl | rfl
  · exact event_1 n vk vn nm vs w hT hok
  · exact event_2 n vk vn nm vs w hT hok
  · exact event_3 n vk vn nm vs w hT hok
  · exact event_4 n vk vn nm vs w hT hok
  · exact event_5 n vk vn nm vs w hT hok
  · by_cases hv : vk = 0
    · subst hv; exact event_6z n vn nm vs w hT hok
    · exact event_6 n vk vn nm vs w hT hok (beq_eq_false_iff_ne.2 hv)
  · exact event_7 n vk vn nm vs w hT hok
  · exact event_8 n vk vn nm vs w hT hok
set_option maxRecDepth 100000 in
set_option maxHeartbeats 2000000 in
theorem revent_any (k n vk vn : Int) (nm vs : ByteArray) (w : World) (hT : TW w) (hok : EvOk n vk vn nm vs) : Calls Tryz.prog 7 #[.agg #[.int .i64 k, .int .i64 n, .string nm, .int .i64 vk, .int .i64 vn, .string vs]] w (EvP k n vk vn nm vs w) := by
  by_cases hlo : k < 1
  · clear hT hok
    have HB : Hid (Below w.heap.size w (w.alloc (.cells #[.int .i64 k, .int .i64 n, .string nm, .int .i64 vk, .int .i64 vn, .string vs] 27))) := (Below.refl _ w).alloc (Nat.le_refl _) _
    have HR : Hid (evS k n nm.data.toList vk (Vs.showS vk vn vs).data.toList = [63]) := by show evS _ _ _ _ _ = _; unfold evS; rw [if_pos (.inl hlo)]
    go_enter Tryz.func7, Tryz.ntmps7
    go_wp2
    go_ret
    exact ⟨_, rfl, by rw [HR.out], HB.out⟩
  by_cases hhi : 8 < k
  · clear hT hok
    have HB : Hid (Below w.heap.size w (w.alloc (.cells #[.int .i64 k, .int .i64 n, .string nm, .int .i64 vk, .int .i64 vn, .string vs] 27))) := (Below.refl _ w).alloc (Nat.le_refl _) _
    have HR : Hid (evS k n nm.data.toList vk (Vs.showS vk vn vs).data.toList = [63]) := by show evS _ _ _ _ _ = _; unfold evS; rw [if_pos (.inr hhi)]
    go_enter Tryz.func7, Tryz.ntmps7
    go_wp2
    go_ret
    exact ⟨_, rfl, by rw [HR.out], HB.out⟩
  have h : k = 1 ∨ k = 2 ∨ k = 3 ∨ k = 4 ∨ k = 5 ∨ k = 6 ∨ k = 7 ∨ k = 8 := by omega
  rcases h with rfl | rfl | rfl | rfl | rfl | rfl | rfl | rfl
  · exact revent_1 n vk vn nm vs w hT hok
  · exact revent_2 n vk vn nm vs w hT hok
  · exact revent_3 n vk vn nm vs w hT hok
  · exact revent_4 n vk vn nm vs w hT hok
  · exact revent_5 n vk vn nm vs w hT hok
  · by_cases hv : vk = 0
    · subst hv; exact revent_6z n vn nm vs w hT hok
    · exact revent_6 n vk vn nm vs w hT hok (beq_eq_false_iff_ne.2 hv)
  · exact revent_7 n vk vn nm vs w hT hok
  · exact revent_8 n vk vn nm vs w hT hok
end Go.Proofs.YtichbejmelkjeaaGreatDoor

namespace Go.Proofs.YtichbejmelkjeaaGreatDoor
open Go.RowKit

set_option maxRecDepth 100000 in
set_option maxHeartbeats 4000000 in
theorem rresponse_any (st s1 s2 s3 : Int) (q : Option Addr) (cap : Nat) (L : List (List UInt8)) (w : World) (hst : -9223372036854775808 ≤ st ∧ st ≤ 9223372036854775807) (hR : Row w w.heap.size q L.length (L.map sV)) (hT : Tab10 w) (hM : (rsS st L).length ≤ 999999000) (hml : ∀ x ∈ L, x.length ≤ 100000000) :
    Calls Tryz.prog 11 #[.agg #[.int .i64 st, .int .i64 s1, .int .i64 s2, .int .i64 s3, .slice q L.length cap]] w fun e w' => e = .returned (.string ⟨(rsS st L).toArray⟩) ∧ Below w.heap.size w w' := by
  obtain ⟨n, hn⟩ : ∃ n, L.length = n := ⟨_, rfl⟩
  rw [hn] at hR ⊢
  obtain ⟨X1, hX1⟩ : ∃ X1, w.alloc (.cells #[.int .i64 st, .int .i64 s1, .int .i64 s2, .int .i64 s3, .slice q n cap] 38) = X1 := ⟨_, rfl⟩
  have B1 : Below w.heap.size w X1 := by rw [← hX1]; exact (Below.refl _ w).alloc (Nat.le_refl _) _
  have F1 : Full X1 w.heap.size 38 [.int .i64 st, .int .i64 s1, .int .i64 s2, .int .i64 s3, .slice q n cap] := by rw [← hX1]; exact Full.new w _ _
  have HF : Hid (∀ W, Below X1.heap.size X1 W → Full W w.heap.size 38 [.int .i64 st, .int .i64 s1, .int .i64 s2, .int .i64 s3, .slice q n cap] ∧ Below w.heap.size w W ∧ Row W w.heap.size q n (L.map sV)) := fun W h => ⟨F1.next h, B1.trans (h.mono B1.size), hR.below (B1.trans (h.mono B1.size)) (Nat.le_refl _)⟩
  have HLn : Hid (L.length = n) := hn
  have HM : Hid ((rsS st L).length ≤ 999999000) := hM
  have HMl : Hid (∀ x ∈ L, x.length ≤ 100000000) := hml
  have HI := itoa_any st X1 hst (hT.next B1)
  have hlt := Lib.itoa_length_le st hst.1 hst.2
  have HIl : Hid ((Lib.itoa st).length ≤ 60) := by show _ ≤ 60; omega
  have e0 := (F1.cell 0 _ rfl).1
  have HX : Hid (Below X1.heap.size X1 X1) := Below.refl _ _
  clear hn hR hT hM hml hst hlt B1 F1
  go_enter Tryz.func11, Tryz.ntmps11
  by_cases h0 : st = 0
  · have HH : Hid (hdR st = [111, 107, 10]) := by show hdR st = _; unfold hdR; rw [if_pos h0]
    have hs0 : (st == 0) = true := by rw [h0]; rfl
    clear h0 HI HIl
    have HA0 : Hid ((⟨#[111, 107, 10]⟩ : ByteArray).data.toList = hdR st ++ (L.take 0).flatMap lnR) := by show _ = _; rw [HH.out]; rfl
    have HX0 := HX
    go_upto_region 3 with fail
    clear HH e0 hX1 HX hs0
    go_loopw [3, 4] (fun v ix wr => ∃ (j : Nat) (A : ByteArray), v = .string A ∧ ix = .int .i64 (j : Int) ∧ j ≤ n ∧ Hid (A.data.toList = hdR st ++ (L.take j).flatMap lnR) ∧ Hid (Below X1.heap.size X1 wr)) (fun _ ix _ => n - (intOf ix).toNat)
    case atStart => exact ⟨0, _, rfl, rfl, by omega, HA0, HX0⟩
    case round =>
      clear HA0 HX0
      obtain ⟨j, A, rfl, rfl, hj, HA, HBx⟩ := hrel
      have hj0 : (0 : Int) ≤ (j : Int) := by omega
      obtain ⟨hfx, hbx, hrx⟩ := HF.out wr HBx.out
      have e4 := (hfx.cell 4 _ rfl).1
      have HBw : Hid (Below w.heap.size w wr) := hbx
      by_cases hend : j = n
      · have HR : Hid (A = ⟨(rsS st L).toArray⟩) := by
          show A = _
          refine ByteArray.ext (Array.ext' ?_)
          rw [HA.out, List.take_of_length_le (by rw [HLn.out]; omega)]; rfl
        subst hend
        clear hfx hbx hrx HA
        go_wp2
        go_ret
        exact ⟨by rw [← HR.out]; rfl, HBw.out⟩
      · have hlt : j < n := by omega
        have hil : (j : Int) < (n : Int) := by omega
        have hjL : j < L.length := by rw [HLn.out]; exact hlt
        obtain ⟨x, hx⟩ : ∃ x, L[j]? = some x := ⟨_, List.getElem?_eq_getElem hjL⟩
        obtain ⟨y, hy⟩ : ∃ y : ByteArray, y = ⟨x.toArray⟩ := ⟨_, rfl⟩
        have hyl : y.data.toList = x := by rw [hy]
        obtain ⟨g, o, rfl, hg, hrg⟩ := hrx (by omega)
        have hc := hrg j (.string y) (by rw [List.getElem?_map, hx, hy]; rfl)
        obtain ⟨Z, hZ⟩ : ∃ Z : ByteArray, Z = ⟨(y.data.toList.flatMap sh).toArray⟩ := ⟨_, rfl⟩
        have C := rshown_any y wr (by rw [Lib.size_eq, hyl]; exact HMl.out x (List.mem_of_getElem? hx))
        rw [← hZ] at C
        have hZl : Z.data.toList = x.flatMap sh := by rw [hZ, hyl]
        have hnx : hdR st ++ (L.take (j + 1)).flatMap lnR = A.data.toList ++ [32, 32] ++ Z.data.toList ++ [10] := by
          rw [take_flat lnR L j x hx, ← List.append_assoc, ← HA.out, hZl]
          unfold lnR
          simp only [List.append_assoc]
        have hbd : A.size + 2 + Z.size + 1 ≤ 999999000 := by
          have h1 := HM.out
          have h2 := take_le lnR L (j + 1)
          have h3 := congrArg List.length hnx
          unfold rsS at h1
          simp only [List.length_append, List.length_cons, List.length_nil] at h1 h3
          rw [Lib.size_eq A, Lib.size_eq Z]
          omega
        have HNx : Hid (hdR st ++ (L.take (j + 1)).flatMap lnR = A.data.toList ++ [32, 32] ++ Z.data.toList ++ [10]) := hnx
        have hz1 : A.size + (⟨#[32, 32]⟩ : ByteArray).size ≤ 9223372036854775807 := by show A.size + 2 ≤ _; omega
        have hz2 : (A ++ (⟨#[32, 32]⟩ : ByteArray)).size + Z.size ≤ 9223372036854775807 := by rw [ByteArray.size_append]; show A.size + 2 + Z.size ≤ _; omega
        have hz3 : (A ++ (⟨#[32, 32]⟩ : ByteArray) ++ Z).size + (⟨#[10]⟩ : ByteArray).size ≤ 9223372036854775807 := by rw [ByteArray.size_append, ByteArray.size_append]; show A.size + 2 + Z.size + 1 ≤ _; omega
        have hwj : IntKind.i64.wrap ((j : Int) + 1) = (j : Int) + 1 := by
          rw [IntKind.wrap_i64]
          have hnb : n ≤ 1000000000 := by
            have h1 := len_flat L
            have h2 := HM.out
            unfold rsS at h2
            rw [List.length_append] at h2
            have h3 := HLn.out
            omega
          omega
        clear hx hy hyl hZ hZl hnx hbd hrg hg hfx hbx hjL hend HA
        go_wp2_with (first
          | (go_at_call 23; refine C.mono ?_; rintro e w5 ⟨rfl, hb5⟩; have HB5 : Hid (Below X1.heap.size X1 w5) := HBx.out.trans (hb5.mono HBx.out.size); clear hb5)
          | go_in)
        refine ⟨⟨j + 1, _, rfl, by go_num, by omega, ?_, HB5⟩, by simp [intOf]; omega⟩
        show (_ : ByteArray).data.toList = _
        rw [cat_list, cat_list, cat_list, HNx.out]
  · have HH : Hid (hdR st = [101, 114, 114, 111, 114, 32] ++ Lib.itoa st ++ [10]) := by show hdR st = _; unfold hdR; rw [if_neg h0]
    have hs0 : (st == 0) = false := by rw [beq_eq_false_iff_ne]; exact h0
    clear h0
    go_wp2_with fail
    refine HI.mono ?_
    rintro e w2 ⟨u, rfl, hu, hb⟩
    clear HI
    have hus : u.size ≤ 60 := by have := HIl.out; rw [← hu, ← Lib.size_eq] at this; exact this
    have hz1 : (⟨#[101, 114, 114, 111, 114, 32]⟩ : ByteArray).size + u.size ≤ 9223372036854775807 := by show 6 + u.size ≤ _; omega
    have hz2 : ((⟨#[101, 114, 114, 111, 114, 32]⟩ : ByteArray) ++ u).size + (⟨#[10]⟩ : ByteArray).size ≤ 9223372036854775807 := by rw [ByteArray.size_append]; show 6 + u.size + 1 ≤ _; omega
    have HA0 : Hid (((⟨#[101, 114, 114, 111, 114, 32]⟩ : ByteArray) ++ u ++ (⟨#[10]⟩ : ByteArray)).data.toList = hdR st ++ (L.take 0).flatMap lnR) := by show _ = _; rw [cat_list, cat_list, HH.out, hu]; simp
    have HX0 : Hid (Below X1.heap.size X1 w2) := hb
    clear hu hus hb HH e0 hX1 HX hs0 HIl
    go_upto_region 3 with fail
    clear hz1 hz2
    go_loopw [3, 4] (fun v ix wr => ∃ (j : Nat) (A : ByteArray), v = .string A ∧ ix = .int .i64 (j : Int) ∧ j ≤ n ∧ Hid (A.data.toList = hdR st ++ (L.take j).flatMap lnR) ∧ Hid (Below X1.heap.size X1 wr)) (fun _ ix _ => n - (intOf ix).toNat)
    case atStart => exact ⟨0, _, rfl, rfl, by omega, HA0, HX0⟩
    case round =>
      clear HA0 HX0
      obtain ⟨j, A, rfl, rfl, hj, HA, HBx⟩ := hrel
      have hj0 : (0 : Int) ≤ (j : Int) := by omega
      obtain ⟨hfx, hbx, hrx⟩ := HF.out wr HBx.out
      have e4 := (hfx.cell 4 _ rfl).1
      have HBw : Hid (Below w.heap.size w wr) := hbx
      by_cases hend : j = n
      · have HR : Hid (A = ⟨(rsS st L).toArray⟩) := by
          show A = _
          refine ByteArray.ext (Array.ext' ?_)
          rw [HA.out, List.take_of_length_le (by rw [HLn.out]; omega)]; rfl
        subst hend
        clear hfx hbx hrx HA
        go_wp2
        go_ret
        exact ⟨by rw [← HR.out]; rfl, HBw.out⟩
      · have hlt : j < n := by omega
        have hil : (j : Int) < (n : Int) := by omega
        have hjL : j < L.length := by rw [HLn.out]; exact hlt
        obtain ⟨x, hx⟩ : ∃ x, L[j]? = some x := ⟨_, List.getElem?_eq_getElem hjL⟩
        obtain ⟨y, hy⟩ : ∃ y : ByteArray, y = ⟨x.toArray⟩ := ⟨_, rfl⟩
        have hyl : y.data.toList = x := by rw [hy]
        obtain ⟨g, o, rfl, hg, hrg⟩ := hrx (by omega)
        have hc := hrg j (.string y) (by rw [List.getElem?_map, hx, hy]; rfl)
        obtain ⟨Z, hZ⟩ : ∃ Z : ByteArray, Z = ⟨(y.data.toList.flatMap sh).toArray⟩ := ⟨_, rfl⟩
        have C := rshown_any y wr (by rw [Lib.size_eq, hyl]; exact HMl.out x (List.mem_of_getElem? hx))
        rw [← hZ] at C
        have hZl : Z.data.toList = x.flatMap sh := by rw [hZ, hyl]
        have hnx : hdR st ++ (L.take (j + 1)).flatMap lnR = A.data.toList ++ [32, 32] ++ Z.data.toList ++ [10] := by
          rw [take_flat lnR L j x hx, ← List.append_assoc, ← HA.out, hZl]
          unfold lnR
          simp only [List.append_assoc]
        have hbd : A.size + 2 + Z.size + 1 ≤ 999999000 := by
          have h1 := HM.out
          have h2 := take_le lnR L (j + 1)
          have h3 := congrArg List.length hnx
          unfold rsS at h1
          simp only [List.length_append, List.length_cons, List.length_nil] at h1 h3
          rw [Lib.size_eq A, Lib.size_eq Z]
          omega
        have HNx : Hid (hdR st ++ (L.take (j + 1)).flatMap lnR = A.data.toList ++ [32, 32] ++ Z.data.toList ++ [10]) := hnx
        have hz1 : A.size + (⟨#[32, 32]⟩ : ByteArray).size ≤ 9223372036854775807 := by show A.size + 2 ≤ _; omega
        have hz2 : (A ++ (⟨#[32, 32]⟩ : ByteArray)).size + Z.size ≤ 9223372036854775807 := by rw [ByteArray.size_append]; show A.size + 2 + Z.size ≤ _; omega
        have hz3 : (A ++ (⟨#[32, 32]⟩ : ByteArray) ++ Z).size + (⟨#[10]⟩ : ByteArray).size ≤ 9223372036854775807 := by rw [ByteArray.size_append, ByteArray.size_append]; show A.size + 2 + Z.size + 1 ≤ _; omega
        have hwj : IntKind.i64.wrap ((j : Int) + 1) = (j : Int) + 1 := by
          rw [IntKind.wrap_i64]
          have hnb : n ≤ 1000000000 := by
            have h1 := len_flat L
            have h2 := HM.out
            unfold rsS at h2
            rw [List.length_append] at h2
            have h3 := HLn.out
            omega
          omega
        clear hx hy hyl hZ hZl hnx hbd hrg hg hfx hbx hjL hend HA
        go_wp2_with (first
          | (go_at_call 23; refine C.mono ?_; rintro e w5 ⟨rfl, hb5⟩; have HB5 : Hid (Below X1.heap.size X1 w5) := HBx.out.trans (hb5.mono HBx.out.size); clear hb5)
          | go_in)
        refine ⟨⟨j + 1, _, rfl, by go_num, by omega, ?_, HB5⟩, by simp [intOf]; omega⟩
        show (_ : ByteArray).data.toList = _
        rw [cat_list, cat_list, cat_list, HNx.out]
end Go.Proofs.YtichbejmelkjeaaGreatDoor

namespace Go.Proofs.YtichbejmelkjeaaGreatDoor
open Go.RowKit

theorem in_sum : ∀ (L : List (List UInt8)) (x : List UInt8), x ∈ L → x.length + 1 ≤ (L.map (fun x => x.length + 1)).sum := by
  intro L
  induction L with
  | nil => intro x h; cases h
  | cons a L ih =>
    intro x h
    simp only [List.map_cons, List.sum_cons]
    rcases List.mem_cons.1 h with rfl | h
    · omega
    · have := ih x h; omega
theorem ba_of {s : ByteArray} {l : List UInt8} (h : s.data.toList = l) : s = ⟨l.toArray⟩ := ByteArray.ext (Array.ext' (by rw [h]))
theorem response_fix (st s1 s2 s3 : Int) (q : Option Addr) (cap : Nat) (L : List (List UInt8)) (w : World) (hst : -9223372036854775808 ≤ st ∧ st ≤ 9223372036854775807) (hR : Row w w.heap.size q L.length (L.map sV)) (hT : Tab10 w) (hle : L.length ≤ cap) (hM : (rsS st L).length ≤ 999999000) (hml : ∀ x ∈ L, x.length ≤ 1000000000) :
    Calls Tryz.prog 10 #[.agg #[.int .i64 st, .int .i64 s1, .int .i64 s2, .int .i64 s3, .slice q L.length cap]] w fun e w' => e = .returned (.string ⟨(rsS st L).toArray⟩) ∧ Below w.heap.size w w' := by
  refine (response_any st s1 s2 s3 q cap L w hst hR hT hle hM hml).mono ?_
  rintro e w' ⟨y, rfl, hq⟩
  have : y = ⟨(rsS st L).toArray⟩ := ByteArray.ext (Array.ext' (by rw [hq.out.1]))
  rw [this]
  exact ⟨rfl, hq.out.2⟩
/-- Both sides tell an event alike. -/
theorem event_both (k n vk vn : Int) (nm vs : ByteArray) (hok : EvOk n vk vn nm vs) : ∃ E : ByteArray, ∀ W, TW W →
    (Calls Tryz.prog 6 #[.agg #[.int .i64 k, .int .i64 n, .string nm, .int .i64 vk, .int .i64 vn, .string vs]] W fun e w' => e = .returned (.string E) ∧ Below W.heap.size W w') ∧
    (Calls Tryz.prog 7 #[.agg #[.int .i64 k, .int .i64 n, .string nm, .int .i64 vk, .int .i64 vn, .string vs]] W fun e w' => e = .returned (.string E) ∧ Below W.heap.size W w') := by
  refine ⟨⟨(evS k n nm.data.toList vk (Vs.showS vk vn vs).data.toList).toArray⟩, fun W hW => ⟨(event_any k n vk vn nm vs W hW hok).mono ?_, (revent_any k n vk vn nm vs W hW hok).mono ?_⟩⟩
  all_goals
    rintro e w' ⟨s, rfl, hs, hb⟩
    rw [ba_of hs]
    exact ⟨rfl, hb⟩
/-- Both sides tell a stop alike. -/
theorem stop_both (k at_ p ph t : Int) (ha : -9223372036854775808 ≤ at_ ∧ at_ ≤ 9223372036854775807) (hp : -9223372036854775808 ≤ p ∧ p ≤ 9223372036854775807) : ∃ E : ByteArray, ∀ W, TW W →
    (Calls Tryz.prog 8 #[.agg #[.int .i64 k, .int .i64 at_, .int .i64 p], .agg #[.int .i64 ph, .int .i64 t]] W fun e w' => e = .returned (.string E) ∧ Below W.heap.size W w') ∧
    (Calls Tryz.prog 9 #[.agg #[.int .i64 k, .int .i64 at_, .int .i64 p], .agg #[.int .i64 ph, .int .i64 t]] W fun e w' => e = .returned (.string E) ∧ Below W.heap.size W w') := by
  refine ⟨⟨(stpS k at_ p ph t).toArray⟩, fun W hW => ⟨(stop_any k at_ p ph t W hW ha hp).mono ?_, (rstop_any k at_ p ph t W hW ha hp).mono ?_⟩⟩
  all_goals
    rintro e w' ⟨s, rfl, hs, hb⟩
    rw [ba_of hs]
    exact ⟨rfl, hb⟩
/-- Both sides tell a response alike, wherever its lines lie. -/
theorem resp_both (st s1 s2 s3 : Int) (n : Nat) (L : List (List UInt8)) (hn : L.length = n) (hst : -9223372036854775808 ≤ st ∧ st ≤ 9223372036854775807) (hs : (L.map (fun x => x.length + 1)).sum ≤ 10000000) : ∃ E : ByteArray, ∀ (W : World) (q : Option Addr) (cap : Nat), Row W W.heap.size q n (L.map sV) → Tab10 W → n ≤ cap →
    (Calls Tryz.prog 10 #[.agg #[.int .i64 st, .int .i64 s1, .int .i64 s2, .int .i64 s3, .slice q n cap]] W fun e w' => e = .returned (.string E) ∧ Below W.heap.size W w') ∧
    (Calls Tryz.prog 11 #[.agg #[.int .i64 st, .int .i64 s1, .int .i64 s2, .int .i64 s3, .slice q n cap]] W fun e w' => e = .returned (.string E) ∧ Below W.heap.size W w') := by
  subst hn
  have hm : ∀ x ∈ L, x.length ≤ 10000000 := fun x hx => by have := in_sum L x hx; omega
  have hl := rs_len st hst L
  exact ⟨⟨(rsS st L).toArray⟩, fun W q cap hR hT hc => ⟨response_fix st s1 s2 s3 q cap L W hst hR hT hc (by omega) (fun x hx => by have := hm x hx; omega), rresponse_any st s1 s2 s3 q cap L W hst hR hT (by omega) (fun x hx => by have := hm x hx; omega)⟩⟩
/-- The same list with one sign more in each line. -/
def xs1 (L : List (List UInt8)) : List (List UInt8) := L.map (· ++ [120])
theorem xs1_len (L : List (List UInt8)) : (xs1 L).length = L.length := by simp [xs1]
theorem xs1_sum (L : List (List UInt8)) : ((xs1 L).map (fun x => x.length + 1)).sum ≤ 2 * (L.map (fun x => x.length + 1)).sum := by
  unfold xs1
  induction L with
  | nil => simp
  | cons a L ih =>
    simp only [List.map_cons, List.sum_cons, List.length_append, List.length_singleton] at ih ⊢
    omega
/-- What the list holds when k lines have been lengthened. -/
def mixS (L : List (List UInt8)) (k : Nat) : List (List UInt8) := (xs1 L).take k ++ L.drop k
theorem mix_zero (L : List (List UInt8)) : mixS L 0 = L := by simp [mixS]
theorem mix_end (L : List (List UInt8)) : mixS L L.length = xs1 L := by
  unfold mixS
  rw [List.drop_length, List.append_nil, List.take_of_length_le (by rw [xs1_len]; exact Nat.le_refl _)]
theorem mix_len (L : List (List UInt8)) (k : Nat) (hk : k ≤ L.length) : (mixS L k).length = L.length := by
  unfold mixS
  rw [List.length_append, List.length_take, List.length_drop, xs1_len]
  omega
theorem mix_get (L : List (List UInt8)) (k : Nat) (hk : k ≤ L.length) : (mixS L k)[k]? = L[k]? := by
  unfold mixS
  rw [List.getElem?_append_right (by rw [List.length_take]; omega), List.length_take, xs1_len, List.getElem?_drop, Nat.min_eq_left hk]
  congr 1
  omega
theorem mix_set (L : List (List UInt8)) (k : Nat) (hk : k < L.length) (x : List UInt8) (hx : L[k]? = some x) : (mixS L k).set k (x ++ [120]) = mixS L (k + 1) := by
  apply List.ext_getElem?
  intro j
  rw [List.getElem?_set, mix_len L k (by omega)]
  unfold mixS
  have e : ∀ i : Nat, (xs1 L)[i]? = (L[i]?).map (· ++ [120]) := fun i => by unfold xs1; rw [List.getElem?_map]
  by_cases h1 : k = j
  · subst h1
    rw [if_pos rfl, if_pos hk, List.getElem?_append_left (by rw [List.length_take, xs1_len]; omega), List.getElem?_take, if_pos (by omega), e, hx]
    rfl
  · rw [if_neg h1]
    by_cases h2 : j < k
    · rw [List.getElem?_append_left (by rw [List.length_take, xs1_len]; omega), List.getElem?_append_left (by rw [List.length_take, xs1_len]; omega), List.getElem?_take, List.getElem?_take, if_pos h2, if_pos (by omega)]
    · rw [List.getElem?_append_right (by rw [List.length_take, xs1_len]; omega), List.getElem?_append_right (by rw [List.length_take, xs1_len]; omega), List.length_take, List.length_take, xs1_len, List.getElem?_drop, List.getElem?_drop]
      congr 1
      omega

/-- The mark behind the lines. -/
abbrev spW : Value := .string ⟨#[115, 112, 97, 114, 101]⟩
/-- One cell of a row of one-cell elements is written. -/
theorem own_one {w : World} {B G n cap : Nat} {e : TypeId} {xs : List Value} (h : w.ownsRow B e 1 (.slice (some ⟨G, 0, none⟩) n cap) n xs) (i : Nat) (hi : i < n) (v : Value) : (w.setCell ⟨G, i, none⟩ v).ownsRow B e 1 (.slice (some ⟨G, 0, none⟩) n cap) n (xs.set i v) := by
  have hl := h.1
  refine own_sets h i [v] (xs.set i v) (by rw [List.length_set]; exact hl) fun j hj => ?_
  show (w.setCell ⟨G, i, none⟩ v).cell? ⟨G, j, none⟩ = _
  have hc := h.cellAt (g := G) j hj
  rw [List.getElem?_set]
  by_cases hij : i = j
  · subst hij
    rw [if_pos rfl, if_pos (by omega)]
    exact World.cell?_setCell_same' _ _ _ (by rw [hc, List.getElem?_eq_getElem (by omega)]; rfl)
  · rw [if_neg hij, World.cell?_setCell_other _ _ _ _ (by first | (simp; done) | (simp; omega))]
    exact hc
/-- A list of lines of the law's own. -/
structure Lw1 (b : Nat) (W : World) (G cap n : Nat) (M : List (List UInt8)) : Prop where
  own : W.ownsRow b 9 1 (.slice (some ⟨G, 0, none⟩) n cap) n (M.map sV)
  len : M.length = n
theorem Lw1.row {b : Nat} {W : World} {G cap n : Nat} {M : List (List UInt8)} (h : Lw1 b W G cap n M) : Row W W.heap.size (some ⟨G, 0, none⟩) n (M.map sV) := row_of_own h.own
theorem Lw1.cap {b : Nat} {W : World} {G cap n : Nat} {M : List (List UInt8)} (h : Lw1 b W G cap n M) : n ≤ cap := by
  rcases h.own.2 with ⟨q, _⟩ | ⟨g, cap', cur, hv, _, _, hnc, _⟩
  · cases q
  · cases hv; exact hnc
/-- The law's own list: the lines, and the mark behind them. -/
structure Lw (b : Nat) (W : World) (G cap n : Nat) (M : List (List UInt8)) : Prop where
  own : W.ownsRow b 9 1 (.slice (some ⟨G, 0, none⟩) (n + 1) cap) (n + 1) (M.map sV ++ [spW])
  len : M.length = n
theorem Lw.next {b : Nat} {W W' : World} {G cap n : Nat} {M : List (List UInt8)} (h : Lw b W G cap n M) (k : Below W.heap.size W W') : Lw b W' G cap n M := ⟨own_next h.own k, h.len⟩
theorem Lw.cap {b : Nat} {W : World} {G cap n : Nat} {M : List (List UInt8)} (h : Lw b W G cap n M) : n + 1 ≤ cap := by
  rcases h.own.2 with ⟨q, _⟩ | ⟨g, cap', cur, hv, _, _, hnc, _⟩
  · cases q
  · cases hv; exact hnc
theorem Lw.lt {b : Nat} {W : World} {G cap n : Nat} {M : List (List UInt8)} (h : Lw b W G cap n M) : b ≤ G ∧ G < W.heap.size := ⟨(h.own.lt _ rfl).1, (own_blk h.own _ rfl).lt⟩
theorem Lw.cell {b : Nat} {W : World} {G cap n : Nat} {M : List (List UInt8)} (h : Lw b W G cap n M) (i : Nat) (x : List UInt8) (hx : M[i]? = some x) : W.cell? ⟨G, i, none⟩ = some (sV x) ∧ W.frozen? ⟨G, i, none⟩ = false := by
  have hi := (List.getElem?_eq_some_iff.1 hx).1
  refine ⟨(h.own.cellAt (g := G) i (by rw [← h.len]; omega)).trans ?_, (own_blk h.own _ rfl).unfrozen _⟩
  rw [List.getElem?_append_left (by simpa using hi), List.getElem?_map, hx]
  rfl
theorem Lw.mark {b : Nat} {W : World} {G cap n : Nat} {M : List (List UInt8)} (h : Lw b W G cap n M) : W.cell? ⟨G, n, none⟩ = some spW := by
  refine (h.own.cellAt (g := G) n (by omega)).trans ?_
  rw [List.getElem?_append_right (by simp [h.len]), List.length_map, h.len, Nat.sub_self]
  rfl
theorem Lw.row {b : Nat} {W : World} {G cap n : Nat} {M : List (List UInt8)} (h : Lw b W G cap n M) : Row W W.heap.size (some ⟨G, 0, none⟩) n (M.map sV) := fun _ => by
  refine ⟨G, 0, rfl, h.lt.2, fun j v hv => ?_⟩
  rw [List.getElem?_map, Option.map_eq_some_iff] at hv
  obtain ⟨x, hx, rfl⟩ := hv
  rw [Nat.zero_add]
  exact (h.cell j x hx).1
theorem Lw.put {b : Nat} {W : World} {G cap n : Nat} {M : List (List UInt8)} (h : Lw b W G cap n M) (i : Nat) (hi : i < n) (x : List UInt8) : Lw b (W.setCell ⟨G, i, none⟩ (sV x)) G cap n (M.set i x) := by
  have h1 := own_one h.own i (by omega) (sV x)
  rw [List.set_append_left _ _ (by rw [List.length_map, h.len]; exact hi), ← List.map_set] at h1
  exact ⟨h1, by rw [List.length_set]; exact h.len⟩
/-- An append whose run is known, for the walk: of whatever types. -/
theorem wpList_run {P : Program} {w : World} {ops : Array Oper} {rest : List Oper} {o : Oper} {a : Act} {Q : Exit → Act → World → Prop} {v' : Value} {w' : World} (hgd : o.guard = none) (s x : Operand) (t u y : TypeId) (vs vx : Value)
    (hr : (Builtin.append_ #[t, u] y #[vs, vx]).run P w = .ok v' w') (ho : o.op = .call { callee := .builtin .append, args := #[s, x], argTypes := #[t, u] }) (hy : o.type = y) (hs : a.eval s = vs) (hx : a.eval x = vx)
    (h : wpList P ops Q rest (a.put o.dst v') w') : wpList P ops Q (o :: rest) a w := by
  subst hy hs hx
  refine wpList_plain hgd fun K hK => ?_
  unfold Oper.wp execOp
  simp only [ho, resolve, invoke, builtin, Sem.run_bind, Sem.run_pure, Result.andThen_ok, List.map_toArray, List.map_cons, List.map_nil, hr]
  exact hK _ _ h
theorem infoSt : (Tryz.prog.info? 9).map (fun i => (i.zero, i.size, i.bytes)) = some (some (.string ⟨#[]⟩), 1, 16) := by kernel_rfl
theorem szSt : ∀ w : World, (sizeOf 9).run Tryz.prog w = .ok 1 w := fun w => by kernel_rfl
theorem Row.none {w : World} {B : Nat} {q : Option Addr} {n : Nat} {xs : List Value} (h : Row w B q n xs) : q = none → n = 0 := fun e => by
  rcases Nat.eq_zero_or_pos n with h0 | h0
  · exact h0
  · obtain ⟨_, _, hq, _⟩ := h h0
    rw [hq] at e
    cases e
theorem sV_one (L : List (List UInt8)) : ∀ u ∈ L.map sV, u.oneCell' = true := fun u hu => by
  obtain ⟨x, -, rfl⟩ := List.mem_map.1 hu
  rfl
/-- The lines in a list of one's own, the mark behind them. -/
theorem dup_lines (X : World) (q : Option Addr) (n cap : Nat) (L : List (List UInt8)) (hn : L.length = n) (hR : Row X X.heap.size q n (L.map sV)) (h40 : n + 1 ≤ 100000000) :
    ∃ G1 c1 w1 G2 c2 w2, (Builtin.append_ #[36, 36] 36 #[.slice (some ⟨X.heap.size, 0, none⟩) 0 0, .slice q n cap]).run Tryz.prog (X.alloc (.cells #[] 9)) = .ok (.slice (some ⟨G1, 0, none⟩) n c1) w1 ∧ Below X.heap.size X w1 ∧ Lw1 X.heap.size w1 G1 c1 n L ∧
      (Builtin.append_ #[36, 36] 36 #[.slice (some ⟨G1, 0, none⟩) n c1, .slice (some ⟨w1.heap.size, 0, none⟩) 1 1]).run Tryz.prog (w1.alloc (.cells #[spW] 9)) = .ok (.slice (some ⟨G2, 0, none⟩) (n + 1) c2) w2 ∧ Below X.heap.size X w2 ∧ Lw X.heap.size w2 G2 c2 n L := by
  have b0 : Below X.heap.size X (X.alloc (.cells #[] 9)) := (Below.refl _ X).alloc (Nat.le_refl _) _
  have hl : (L.map sV).length = n * 1 := by rw [List.length_map, hn, Nat.mul_one]
  obtain ⟨G1, c1, w1, r1, o1, g1⟩ := app_src (P := Tryz.prog) 36 36 _ 16 Tryz.underlying36 infoSt rfl (by decide) (by decide) (own_empty (e := 9) (size := 1) X) q n cap (L.map sV) hl hR.none (fun h => by
    obtain ⟨g, o, e1, -, e2⟩ := (hR.below b0 (Nat.le_refl _)) h
    exact ⟨g, o, e1, e2⟩) (sV_one L) (by omega) b0.size
  rw [Nat.zero_add] at r1 o1
  rw [List.nil_append] at o1
  have k1 : Below X.heap.size X w1 := b0.trans ((Below.refl _ _).grown g1 b0.size fun x hx => by cases hx; exact Nat.le_refl _)
  have b1 : Below w1.heap.size w1 (w1.alloc (.cells #[spW] 9)) := (Below.refl _ w1).alloc (Nat.le_refl _) _
  obtain ⟨G2, c2, w2, r2, o2, g2⟩ := app_mark (P := Tryz.prog) 36 36 _ 16 Tryz.underlying36 infoSt rfl (by decide) (by decide) (own_next o1 b1) w1.heap.size [spW] rfl (by simp [Value.oneCell']) (Full.new w1 #[spW] 9).range (by omega) (Nat.le_trans k1.size b1.size)
  have k2 : Below X.heap.size X (w1.alloc (.cells #[spW] 9)) := below2 k1 b1
  exact ⟨G1, c1, w1, G2, c2, w2, r1, k1, ⟨o1, hn⟩, r2, k2.trans ((Below.refl _ _).grown g2 k2.size fun x hx => by cases hx; exact (o1.lt _ rfl).1), ⟨o2, hn⟩⟩
/-- Where the law stands: the response that it asks of (at R), its list, with the lines M. -/
structure TlS (X W : World) (R G cap m : Nat) (st a1 a2 a3 : Int) (M : List (List UInt8)) : Prop where
  b : Below X.heap.size X W
  box : Full W R 38 [.int .i64 st, .int .i64 a1, .int .i64 a2, .int .i64 a3, .slice (some ⟨G, 0, none⟩) m cap]
  own : Lw X.heap.size W G cap m M
  low : X.heap.size ≤ R
theorem TlS.next {X W W' : World} {R G cap m : Nat} {st a1 a2 a3 : Int} {M : List (List UInt8)} (h : TlS X W R G cap m st a1 a2 a3 M) (k : Below W.heap.size W W') : TlS X W' R G cap m st a1 a2 a3 M := ⟨below2 h.b k, h.box.next k, h.own.next k, h.low⟩
theorem TlS.put {X W : World} {R G cap m : Nat} {st a1 a2 a3 : Int} {M : List (List UInt8)} (h : TlS X W R G cap m st a1 a2 a3 M) (i : Nat) (hi : i < m) (x : List UInt8) : TlS X (W.setCell ⟨G, i, none⟩ (sV x)) R G cap m st a1 a2 a3 (M.set i x) := by
  have hne : R ≠ G := by
    rintro rfl
    exact (own_blk h.own.own _ rfl).ne (⟨_, h.box, Nat.zero_le _⟩ : Blk W R 38 0) (by decide) rfl
  exact ⟨h.b.setCell (p := ⟨G, i, none⟩) h.own.lt.1 _, h.box.other1 hne, h.own.put i hi x, h.low⟩
theorem TlS.cells {X W : World} {R G cap m : Nat} {st a1 a2 a3 : Int} {M : List (List UInt8)} (h : TlS X W R G cap m st a1 a2 a3 M) : W.cell? ⟨R, 0, none⟩ = some (.int .i64 st) ∧ W.cell? ⟨R, 1, none⟩ = some (.int .i64 a1) ∧ W.cell? ⟨R, 2, none⟩ = some (.int .i64 a2) ∧ W.cell? ⟨R, 3, none⟩ = some (.int .i64 a3) ∧ W.cell? ⟨R, 4, none⟩ = some (.slice (some ⟨G, 0, none⟩) m cap) :=
  ⟨(h.box.cell 0 _ rfl).1, (h.box.cell 1 _ rfl).1, (h.box.cell 2 _ rfl).1, (h.box.cell 3 _ rfl).1, (h.box.cell 4 _ rfl).1⟩
theorem TlS.other {X W : World} {R G cap m : Nat} {st a1 a2 a3 : Int} {M : List (List UInt8)} (h : TlS X W R G cap m st a1 a2 a3 M) (N j : Nat) (u : Value) (hR : R ≠ N) (hG : G ≠ N) (hN : X.heap.size ≤ N) : TlS X (W.setCell ⟨N, j, none⟩ u) R G cap m st a1 a2 a3 M :=
  ⟨h.b.setCell (p := ⟨N, j, none⟩) hN _, h.box.other1 hR, ⟨own_same h.own.own fun g hg => by cases hg; exact set_heap (a := ⟨N, j, none⟩) hG, h.own.len⟩, h.low⟩
/-- The second list, and the second response. -/
theorem now_made {X W : World} {R G cap m : Nat} {st a1 a2 a3 : Int} {M : List (List UInt8)} (h : TlS X W R G cap m st a1 a2 a3 M) (hX : X.heap.size ≤ W.heap.size) (q : Option Addr) (c : Nat) (h40 : m + 1 ≤ 100000000) : ∃ Y6 N, W.alloc (.cells #[.int .i64 st, .int .i64 a1, .int .i64 a2, .int .i64 a3, .slice q m c] 38) = Y6 ∧ W.heap.size = N ∧ ∃ G1 c1 w1,
    (Builtin.append_ #[36, 36] 36 #[.slice (some ⟨Y6.heap.size, 0, none⟩) 0 0, .slice (some ⟨G, 0, none⟩) m cap]).run Tryz.prog (Y6.alloc (.cells #[] 9)) = .ok (.slice (some ⟨G1, 0, none⟩) m c1) w1 ∧
    (Y6.alloc (.cells #[] 9)).cell? ⟨R, 4, none⟩ = some (.slice (some ⟨G, 0, none⟩) m cap) ∧ w1.cell? ⟨N, 4, none⟩ = some (.slice q m c) ∧ w1.frozen? ⟨N, 4, none⟩ = false ∧
    Hid (∃ Y7, w1.setCell ⟨N, 4, none⟩ (.slice (some ⟨G1, 0, none⟩) m c1) = Y7 ∧ TlS X Y7 R G cap m st a1 a2 a3 M ∧ Full Y7 N 38 [.int .i64 st, .int .i64 a1, .int .i64 a2, .int .i64 a3, .slice (some ⟨G1, 0, none⟩) m c1] ∧ Lw1 X.heap.size Y7 G1 c1 m M) := by
  obtain ⟨Y6, hY6⟩ : ∃ Y6, W.alloc (.cells #[.int .i64 st, .int .i64 a1, .int .i64 a2, .int .i64 a3, .slice q m c] 38) = Y6 := ⟨_, rfl⟩
  have nb : Below W.heap.size W Y6 := by rw [← hY6]; exact (Below.refl _ W).alloc (Nat.le_refl _) _
  have f6 : Full Y6 W.heap.size 38 [.int .i64 st, .int .i64 a1, .int .i64 a2, .int .i64 a3, .slice q m c] := by rw [← hY6]; exact Full.new W _ _
  have h6 := h.next nb
  have hz : Y6.heap.size = W.heap.size + 1 := by rw [← hY6]; simp
  obtain ⟨G1, c1, w1, G2, c2, w2, r1, k1, l1, -, -, -⟩ := dup_lines Y6 (some ⟨G, 0, none⟩) m cap M h.own.len h6.own.row h40
  have f7 := f6.next k1
  have h7 := h6.next k1
  have hRl : R < W.heap.size := h.box.lt
  have hGl := h.own.lt.2
  have hG1 : Y6.heap.size ≤ G1 := (l1.own.lt _ rfl).1
  refine ⟨Y6, _, hY6, rfl, G1, c1, w1, r1, ?_, (f7.cell 4 _ rfl).1, (f7.cell 4 _ rfl).2, _, rfl, h7.other _ 4 _ (by omega) (by omega) hX, Full.put1 (a := [.int .i64 st, .int .i64 a1, .int .i64 a2, .int .i64 a3]) (d := []) f7 _, ?_, l1.len⟩
  · exact ((h6.next ((Below.refl _ Y6).alloc (Nat.le_refl _) _)).box.cell 4 _ rfl).1
  · exact own_down (own_same l1.own fun g hg => by cases hg; exact set_heap (a := ⟨W.heap.size, 4, none⟩) (show G1 ≠ W.heap.size by omega)) (Nat.le_trans hX (by omega))
end Go.Proofs.YtichbejmelkjeaaGreatDoor
