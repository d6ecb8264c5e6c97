import Derived.Test.YtlahcmhjnhangabDoorSaid
import Derived.Test.YtlahcmhjnhangabDoorRScan
namespace Go.Proofs.YtlahcmhjnhangabDoor
open Go.RowKit Go.Shelf

set_option maxRecDepth 100000 in
set_option maxHeartbeats 1000000 in
theorem refText_big (k a z n : Int) (s : ByteArray) (w : World) (hs : 4194304 < s.size) :
    Calls Tryd.prog 5 #[.agg #[.int .i64 k, .int .i64 a, .int .i64 z, .string s, .int .i64 n]] w fun e w' => e = .returned (.tuple #[.string ⟨#[]⟩, .int .i64 1]) ∧ Below w.heap.size w w' := by
  have h1 : (4194304 : Int) < (s.size : Int) := by omega
  go_enter Tryd.func5, Tryd.ntmps5
  go_wp2
  exact bodyPost_ret (by simp [results, Tryd.results5, go_sem]) rfl ⟨rfl, (Below.refl _ w).alloc (Nat.le_refl _) _⟩

set_option maxRecDepth 100000 in
set_option maxHeartbeats 1000000 in
theorem refText_no (k a z n : Int) (s : ByteArray) (w : World) (hs : s.size ≤ 4194304) (h0 : -9223372036854775808 ≤ n) (h1 : n ≤ 9223372036854775807) (ht : Hid (Tab10 w)) (hT : Hid (RTabs w)) (b : ByteArray) (hb : Hid (sdS k s n = b)) (c p : Int) (hc : (c == 0) = false)
    (HC : Hid (∀ W, RTabs W → Calls Tryd.prog 10 #[.string b] W fun x w' => x = .returned (.tuple #[.slice none 0 0, .agg #[.int .i64 c, .int .i64 p]]) ∧ Below W.heap.size W w')) :
    Calls Tryd.prog 5 #[.agg #[.int .i64 k, .int .i64 a, .int .i64 z, .string s, .int .i64 n]] w fun e w' => e = .returned (.tuple #[.string ⟨#[]⟩, .int .i64 1]) ∧ Below w.heap.size w w' := by
  have h2 : ¬ (4194304 : Int) < (s.size : Int) := by omega
  have HB0 : Hid (Below w.heap.size w (w.alloc (.cells #[.int .i64 k, .int .i64 a, .int .i64 z, .string s, .int .i64 n] 24))) := (Below.refl _ w).alloc (Nat.le_refl _) _
  have HA : Hid (Calls Tryd.prog 9 #[.agg #[.int .i64 k, .int .i64 a, .int .i64 z, .string s, .int .i64 n]] (w.alloc (.cells #[.int .i64 k, .int .i64 a, .int .i64 z, .string s, .int .i64 n] 24)) fun e w' => e = .returned (.string b) ∧ Below (w.alloc (.cells #[.int .i64 k, .int .i64 a, .int .i64 z, .string s, .int .i64 n] 24)).heap.size (w.alloc (.cells #[.int .i64 k, .int .i64 a, .int .i64 z, .string s, .int .i64 n] 24)) w') := by
    have h := said_any k a z n s _ h0 h1 hs (ht.out.next HB0.out)
    rw [hb.out] at h
    exact h
  have HT0 : Hid (RTabs (w.alloc (.cells #[.int .i64 k, .int .i64 a, .int .i64 z, .string s, .int .i64 n] 24))) := hT.out.next HB0.out
  go_enter Tryd.func5, Tryd.ntmps5
  go_wp2_with (first
    | (go_at_call 9; refine HA.out.mono ?_; rintro e w2 ⟨rfl, hb2⟩)
    | (go_at_call 10; refine (HC.out _ (HT0.out.next hb2)).mono ?_; rintro e w3 ⟨rfl, hb3⟩)
    | go_in)
  have hb5 := HB0.out.trans (hb2.mono HB0.out.size)
  have hb6 := hb5.trans (hb3.mono hb5.size)
  exact bodyPost_ret (by simp [results, Tryd.results5, go_sem]) rfl ⟨rfl, hb6.alloc hb6.size _⟩

set_option maxRecDepth 100000 in
set_option maxHeartbeats 4000000 in
theorem refText_yes (k a z n : Int) (s : ByteArray) (w : World) (hs : s.size ≤ 4194304) (h0 : -9223372036854775808 ≤ n) (h1 : n ≤ 9223372036854775807) (ht : Hid (Tab10 w)) (hT : Hid (RTabs w)) (b : ByteArray) (hb : Hid (sdS k s n = b)) (p : Nat) (x : Tk) (rest : List (Nat × Tk))
    (HC : Hid (∀ W, RTabs W → Calls Tryd.prog 10 #[.string b] W fun y w' => ∃ v, y = .returned (.tuple #[v, .agg #[.int .i64 0, .int .i64 0]]) ∧ w'.ownsRow W.heap.size 24 5 v ((p, x) :: rest).length (toksV ((p, x) :: rest)) ∧ Below W.heap.size W w')) :
    Calls Tryd.prog 5 #[.agg #[.int .i64 k, .int .i64 a, .int .i64 z, .string s, .int .i64 n]] w fun e w' => e = .returned (if (x.kind : Int) = k ∧ (⟨x.text.toArray⟩ : ByteArray) = s ∧ x.int = n ∧ (p : Int) = 0 ∧ (p : Int) + (x.len : Int) = (b.size : Int) then .tuple #[.string b, .int .i64 0] else .tuple #[.string ⟨#[]⟩, .int .i64 1]) ∧ Below w.heap.size w w' := by
  have h2 : ¬ (4194304 : Int) < (s.size : Int) := by omega
  have HB0 : Hid (Below w.heap.size w (w.alloc (.cells #[.int .i64 k, .int .i64 a, .int .i64 z, .string s, .int .i64 n] 24))) := (Below.refl _ w).alloc (Nat.le_refl _) _
  have F0 : Hid (Five (w.alloc (.cells #[.int .i64 k, .int .i64 a, .int .i64 z, .string s, .int .i64 n] 24)) w.heap.size (.int .i64 k) (.int .i64 a) (.int .i64 z) (.string s) (.int .i64 n)) := five_new w _ _ _ _ _ 24
  have hl0 : w.heap.size < (w.alloc (.cells #[.int .i64 k, .int .i64 a, .int .i64 z, .string s, .int .i64 n] 24)).heap.size := World.block_lt_of_cell? _ _ F0.out.c0
  have HA : Hid (Calls Tryd.prog 9 #[.agg #[.int .i64 k, .int .i64 a, .int .i64 z, .string s, .int .i64 n]] (w.alloc (.cells #[.int .i64 k, .int .i64 a, .int .i64 z, .string s, .int .i64 n] 24)) fun e w' => e = .returned (.string b) ∧ Below (w.alloc (.cells #[.int .i64 k, .int .i64 a, .int .i64 z, .string s, .int .i64 n] 24)).heap.size (w.alloc (.cells #[.int .i64 k, .int .i64 a, .int .i64 z, .string s, .int .i64 n] 24)) w') := by
    have h := said_any k a z n s _ h0 h1 hs (ht.out.next HB0.out)
    rw [hb.out] at h
    exact h
  have HT0 : Hid (RTabs (w.alloc (.cells #[.int .i64 k, .int .i64 a, .int .i64 z, .string s, .int .i64 n] 24))) := hT.out.next HB0.out
  obtain ⟨kx, hkx⟩ : ∃ kx : Int, (x.kind : Int) = kx := ⟨_, rfl⟩
  obtain ⟨tx, htx⟩ : ∃ tx : ByteArray, (⟨x.text.toArray⟩ : ByteArray) = tx := ⟨_, rfl⟩
  obtain ⟨ix, hix⟩ : ∃ ix : Int, x.int = ix := ⟨_, rfl⟩
  obtain ⟨px, hpx⟩ : ∃ px : Int, (p : Int) = px := ⟨_, rfl⟩
  obtain ⟨ex, hex⟩ : ∃ ex : Int, (p : Int) + (x.len : Int) = ex := ⟨_, rfl⟩
  have hcl : Hid (tkCells p x = [.int .i64 kx, .int .i64 px, .int .i64 ex, .string tx, .int .i64 ix]) := by
    show _ = _
    unfold tkCells
    rw [hkx, hex, htx, hix, hpx]
  rw [hex, hpx, hkx, htx, hix]
  clear hex hpx hkx htx hix
  obtain ⟨R, hR⟩ : ∃ R, Hid (R = if kx = k ∧ tx = s ∧ ix = n ∧ px = 0 ∧ ex = (b.size : Int) then Value.tuple #[.string b, .int .i64 0] else .tuple #[.string ⟨#[]⟩, .int .i64 1]) := ⟨_, rfl⟩
  rw [← hR.out]
  go_enter Tryd.func5, Tryd.ntmps5
  go_upto_region 8 with (first
    | (go_at_call 9; refine HA.out.mono ?_; rintro e w2 ⟨rfl, hb2⟩)
    | (go_at_call 10; refine (HC.out _ (HT0.out.next hb2)).mono ?_; rintro y w3 ⟨v, rfl, ho, hb3⟩; obtain ⟨g, cap, rfl, hcap, hg0, hg1, hcell⟩ := toks_at ho (by simp);
       have hcc : ∀ j u, (tkCells p x)[j]? = some u → w3.cell? ⟨g, j, none⟩ = some u := (by intro j u hu; refine hcell j u ?_; rw [show toksV ((p, x) :: rest) = tkCells p x ++ toksV rest from by simp [toksV], List.getElem?_append_left (by have := (List.getElem?_eq_some_iff.1 hu).1; exact this)]; exact hu);
       rw [hcl.out] at hcc;
       have c0 := hcc 0 _ rfl; have c1 := hcc 1 _ rfl; have c2 := hcc 2 _ rfl; have c3 := hcc 3 _ rfl; have c4 := hcc 4 _ rfl; clear hcc hcell ho;
       obtain ⟨d0, d1, d2, d3, d4, _⟩ := (F0.out.below hb2 hl0).below hb3 (Nat.lt_of_lt_of_le hl0 hb2.size); have hl2 : w.heap.size < w3.heap.size := Nat.lt_of_lt_of_le (Nat.lt_of_lt_of_le hl0 hb2.size) hb3.size)
    | go_in)
  have hb5 := HB0.out.trans (hb2.mono HB0.out.size)
  have HB6 : Hid (Below w.heap.size w w3) := hb5.trans (hb3.mono hb5.size)
  clear HC F0 HB0 HT0 HA hb2 hb3 hb5 hl0 ht hT hb
  have HB7 : Hid (Below w.heap.size w ((w3.alloc (.cells #[.int .i64 0, .int .i64 0] 35)).alloc (.cells #[.int .i64 kx, .int .i64 px, .int .i64 ex, .string tx, .int .i64 ix] 24))) := (HB6.out.alloc HB6.out.size _).alloc (by have := HB6.out.size; simp; omega) _
  go_wp2
  · have hx : (ex != (b.size : Int)) = true := by assumption
    have hR2 := hR.out
    rw [if_neg (by rintro ⟨_, _, _, _, q⟩; simp [q] at hx)] at hR2
    subst hR2
    exact bodyPost_ret (by simp [results, Tryd.results5, go_sem]) rfl ⟨rfl, by simpa only [*] using HB7.out⟩
  · have hx : (ex != (b.size : Int)) = false := by assumption
    have hc : kx = k ∧ tx = s ∧ ix = n ∧ px = 0 ∧ ex = (b.size : Int) := ⟨by assumption, toL_inj (by assumption), by assumption, by assumption, by simpa using hx⟩
    have hR2 := hR.out
    rw [if_pos hc] at hR2
    subst hR2
    exact bodyPost_ret (by simp [results, Tryd.results5, go_sem]) rfl ⟨rfl, by simpa only [*] using HB7.out⟩
  all_goals (
    have hc : ¬ (kx = k ∧ tx = s ∧ ix = n ∧ px = 0 ∧ ex = (b.size : Int)) := by
      rintro ⟨q1, q2, q3, q4, q5⟩
      subst q2
      contradiction
    have hR2 := hR.out
    rw [if_neg hc] at hR2
    subst hR2
    exact bodyPost_ret (by simp [results, Tryd.results5, go_sem]) rfl ⟨rfl, by simpa only [*] using HB7.out⟩)
end Go.Proofs.YtlahcmhjnhangabDoor
