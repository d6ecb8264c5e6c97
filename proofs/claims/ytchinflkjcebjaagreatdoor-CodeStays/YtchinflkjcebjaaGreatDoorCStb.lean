import Derived.Test.YtchinflkjcebjaaGreatDoorCLb
import Derived.Test.YtchinflkjcebjaaGreatDoorCSta
import Derived.Test.YtchinflkjcebjaaGreatDoorCOp
namespace Go.Proofs.YtchinflkjcebjaaGreatDoor
open Go.RowKit

theorem cat_eq (a b : ByteArray) (h : a.size + b.size ≤ 9223372036854775807) : Op.stringOp .add a b = pure (.string (a ++ b)) := by
  unfold Op.stringOp
  simp only
  have e : IntKind.i64.max = 9223372036854775807 := by decide
  rw [e, if_neg (by omega)]
/-- What the calls say of a text a, with b behind its first lines: d, E, N: a assembled; the second time d2, 131, N. -/
structure Ks (w : World) (a b : ByteArray) (d : Cd) (E N : Int) (R : Option Nat) : Prop where
  asm : ∀ W : World, Below w.heap.size w W → Calls Tryz.prog 7 #[.string a] W fun e w' => ∃ iq ia eq ea tq ta, e = .returned (.tuple #[aggC iq eq tq ia ea ta d, .int .i64 E, .int .i64 N]) ∧ Hid (Below W.heap.size W w')
  ln : ∀ W : World, Calls Tryz.prog 8 #[.string a, .int .i64 N] W (LineP R a W)
  as2 : ∀ j, R = some j → ∀ W : World, Below w.heap.size w W → Calls Tryz.prog 7 #[.string (YtchinflkjcebjaaGreatDoor.bk ((lt a).take j) ++ b)] W fun e w' => ∃ (iq : Option Addr) (ia : Nat) (eq : Option Addr) (ea : Nat) (tq : Option Addr) (ta : Nat), e = .returned (.tuple #[.agg #[.slice iq 0 ia, .slice eq 0 ea, .slice tq 0 ta, .int .i64 0], .int .i64 131, .int .i64 N]) ∧ Hid (Below W.heap.size W w')
  cat : ∀ j, R = some j → Op.stringOp .add (YtchinflkjcebjaaGreatDoor.bk ((lt a).take j)) b = pure (.string (YtchinflkjcebjaaGreatDoor.bk ((lt a).take j) ++ b))
  kn : ∀ W : World, Below w.heap.size w W → Calls Tryz.prog 9 #[] W fun e w' => e = .returned (.bool true) ∧ Below W.heap.size W w'
/-- The argument in its box. -/
def Bm (W : World) (p : Nat) (a b : ByteArray) : Prop := W.heap[p]? = some (.cells #[.string a, .string b] 23)
theorem Bm.next {W W' : World} {p : Nat} {a b : ByteArray} (h : Bm W p a b) (k : Below W.heap.size W W') : Bm W' p a b := (k.block _ (Array.getElem?_eq_some_iff.1 h).1).trans h
theorem Bm.cs {W : World} {p : Nat} {a b : ByteArray} (h : Bm W p a b) : W.cell? ⟨p, 0, none⟩ = some (.string a) ∧ W.cell? ⟨p, 1, none⟩ = some (.string b) := ⟨(blk_cell h 0 _ rfl).1, (blk_cell h 1 _ rfl).1⟩
theorem asmF_le : ∀ (f k : Nat) (s : St) (l : Bs) (m : Nat), asmF f k s l = .inr m → m < k + f
  | 0, _, _, _, _, e => by cases e
  | f + 1, k, s, l, m, e => by
    unfold asmF at e
    split at e
    · cases e
    · split at e
      · cases e; omega
      · have := asmF_le f _ _ _ _ e
        omega
theorem asm_le {l : Bs} {n : Nat} (h : asmS l = .inr n) : n ≤ l.length + 2 := by
  unfold asmS at h
  split at h
  · rename_i m q
    cases h
    have := asmF_le _ _ _ _ _ q
    omega
  · split at h
    · cases h
      have := List.count_le_length (a := (10 : UInt8)) (l := l)
      omega
    · cases h
set_option maxRecDepth 100000 in
set_option maxHeartbeats 4000000 in
theorem stays_ok (w : World) (a b : ByteArray) (d : Cd) (N : Int) (R : Option Nat) (K : Hid (Ks w a b d 0 N R)) : Calls Tryz.prog 3 #[.agg #[.string a, .string b]] w fun e w' => e = .returned (.bool true) ∧ Below w.heap.size w w' := by
  obtain ⟨W1, hW1⟩ : ∃ W1, W1 = w.alloc (.cells #[.string a, .string b] 23) := ⟨_, rfl⟩
  have H1 : Hid (Bm W1 w.heap.size a b ∧ Below w.heap.size w W1) := by
    rw [hW1]
    exact ⟨World.alloc_heap_new w _, (Below.refl _ w).alloc (Nat.le_refl _) _⟩
  go_enter Tryz.func3, Tryz.ntmps3
  go_upto_region 1 with fail
  rw [← hW1]
  clear hW1
  obtain ⟨x0, x1⟩ := H1.out.1.cs
  have a1 := K.out.asm W1 H1.out.2
  go_wp2_with fail
  refine a1.mono ?_
  rintro e W2 ⟨iq, ia, eq, ea, tq, ta, rfl, hw2⟩
  obtain ⟨W3, hW3⟩ : ∃ W3, W3 = W2.alloc (.cells #[.slice iq d.ins.length ia, .slice eq d.ens.length ea, .slice tq d.txs.length ta, .int .i64 d.main] 28) := ⟨_, rfl⟩
  have H3 : Hid (Bm W3 w.heap.size a b ∧ Below w.heap.size w W3) := by
    have nb : Below W2.heap.size W2 W3 := by rw [hW3]; exact (Below.refl _ W2).alloc (Nat.le_refl _) _
    exact ⟨(H1.out.1.next hw2.out).next nb, below2 (below2 H1.out.2 hw2.out) nb⟩
  clear a1 x0 x1 hw2 H1
  go_upto_region 2 with fail
  rw [← hW3]
  clear hW3 W1
  generalize W2.heap.size = p2 at *
  clear W2
  obtain ⟨x0, x1⟩ := H3.out.1.cs
  have l3 := K.out.ln W3
  go_wp2_with fail
  refine l3.mono ?_
  rintro e W4 ⟨T, bo, rfl, hl⟩
  obtain ⟨hl1, rfl⟩ := hl.out
  clear hl l3
  clear hl1
  have k := K.out.kn W4 H3.out.2
  go_wp2_with fail
  refine k.mono ?_
  rintro e W5 ⟨rfl, hw5⟩
  have H5 : Hid (Below w.heap.size w W5) := below2 H3.out.2 hw5
  clear k hw5 x0 x1 H3
  go_wp2
  go_ret
  exact ⟨rfl, H5.out⟩
set_option maxRecDepth 100000 in
set_option maxHeartbeats 4000000 in
theorem stays_no (w : World) (a b : ByteArray) (d : Cd) (N : Int) (K : Hid (Ks w a b d 131 N none)) : Calls Tryz.prog 3 #[.agg #[.string a, .string b]] w fun e w' => e = .returned (.bool true) ∧ Below w.heap.size w w' := by
  obtain ⟨W1, hW1⟩ : ∃ W1, W1 = w.alloc (.cells #[.string a, .string b] 23) := ⟨_, rfl⟩
  have H1 : Hid (Bm W1 w.heap.size a b ∧ Below w.heap.size w W1) := by
    rw [hW1]
    exact ⟨World.alloc_heap_new w _, (Below.refl _ w).alloc (Nat.le_refl _) _⟩
  go_enter Tryz.func3, Tryz.ntmps3
  go_upto_region 1 with fail
  rw [← hW1]
  clear hW1
  obtain ⟨x0, x1⟩ := H1.out.1.cs
  have a1 := K.out.asm W1 H1.out.2
  go_wp2_with fail
  refine a1.mono ?_
  rintro e W2 ⟨iq, ia, eq, ea, tq, ta, rfl, hw2⟩
  obtain ⟨W3, hW3⟩ : ∃ W3, W3 = W2.alloc (.cells #[.slice iq d.ins.length ia, .slice eq d.ens.length ea, .slice tq d.txs.length ta, .int .i64 d.main] 28) := ⟨_, rfl⟩
  have H3 : Hid (Bm W3 w.heap.size a b ∧ Below w.heap.size w W3) := by
    have nb : Below W2.heap.size W2 W3 := by rw [hW3]; exact (Below.refl _ W2).alloc (Nat.le_refl _) _
    exact ⟨(H1.out.1.next hw2.out).next nb, below2 (below2 H1.out.2 hw2.out) nb⟩
  clear a1 x0 x1 hw2 H1
  go_upto_region 2 with fail
  rw [← hW3]
  clear hW3 W1
  generalize W2.heap.size = p2 at *
  clear W2
  obtain ⟨x0, x1⟩ := H3.out.1.cs
  have l3 := K.out.ln W3
  go_wp2_with fail
  refine l3.mono ?_
  rintro e W4 ⟨T, bo, rfl, hl⟩
  obtain ⟨hl1, rfl⟩ := hl.out
  clear hl l3
  obtain rfl : bo = false := by
    rcases hl1 with ⟨j, h, -⟩ | ⟨-, h⟩
    · cases h
    · exact h
  clear hl1
  have k := K.out.kn W4 H3.out.2
  go_wp2_with fail
  refine k.mono ?_
  rintro e W5 ⟨rfl, hw5⟩
  have H5 : Hid (Below w.heap.size w W5) := below2 H3.out.2 hw5
  clear k hw5 x0 x1 H3
  go_wp2
  go_ret
  exact ⟨rfl, H5.out⟩
set_option maxRecDepth 100000 in
set_option maxHeartbeats 4000000 in
theorem stays_yes (w : World) (a b : ByteArray) (d : Cd) (N : Int) (j : Nat) (K : Hid (Ks w a b d 131 N (some j))) : Calls Tryz.prog 3 #[.agg #[.string a, .string b]] w fun e w' => e = .returned (.bool true) ∧ Below w.heap.size w w' := by
  obtain ⟨W1, hW1⟩ : ∃ W1, W1 = w.alloc (.cells #[.string a, .string b] 23) := ⟨_, rfl⟩
  have H1 : Hid (Bm W1 w.heap.size a b ∧ Below w.heap.size w W1) := by
    rw [hW1]
    exact ⟨World.alloc_heap_new w _, (Below.refl _ w).alloc (Nat.le_refl _) _⟩
  go_enter Tryz.func3, Tryz.ntmps3
  go_upto_region 1 with fail
  rw [← hW1]
  clear hW1
  obtain ⟨x0, x1⟩ := H1.out.1.cs
  have a1 := K.out.asm W1 H1.out.2
  go_wp2_with fail
  refine a1.mono ?_
  rintro e W2 ⟨iq, ia, eq, ea, tq, ta, rfl, hw2⟩
  obtain ⟨W3, hW3⟩ : ∃ W3, W3 = W2.alloc (.cells #[.slice iq d.ins.length ia, .slice eq d.ens.length ea, .slice tq d.txs.length ta, .int .i64 d.main] 28) := ⟨_, rfl⟩
  have H3 : Hid (Bm W3 w.heap.size a b ∧ Below w.heap.size w W3) := by
    have nb : Below W2.heap.size W2 W3 := by rw [hW3]; exact (Below.refl _ W2).alloc (Nat.le_refl _) _
    exact ⟨(H1.out.1.next hw2.out).next nb, below2 (below2 H1.out.2 hw2.out) nb⟩
  clear a1 x0 x1 hw2 H1
  go_upto_region 2 with fail
  rw [← hW3]
  clear hW3 W1
  generalize W2.heap.size = p2 at *
  clear W2
  obtain ⟨x0, x1⟩ := H3.out.1.cs
  have l3 := K.out.ln W3
  go_wp2_with fail
  refine l3.mono ?_
  rintro e W4 ⟨T, bo, rfl, hl⟩
  obtain ⟨hl1, rfl⟩ := hl.out
  clear hl l3
  obtain ⟨rfl, rfl⟩ : bo = true ∧ T = YtchinflkjcebjaaGreatDoor.bk ((lt a).take j) := by
    rcases hl1 with ⟨j', h, hT, hb⟩ | ⟨h, -⟩
    · cases h
      exact ⟨hb, hT⟩
    · cases h
  clear hl1
  have a2 := K.out.as2 j rfl W4 H3.out.2
  have c2 := K.out.cat j rfl
  generalize YtchinflkjcebjaaGreatDoor.bk ((lt a).take j) = T at a2 c2 ⊢
  go_wp2_with fail
  refine a2.mono ?_
  rintro e W5 ⟨iq', ia', eq', ea', tq', ta', rfl, hw5⟩
  obtain ⟨W6, hW6⟩ : ∃ W6, W6 = W5.alloc (.cells #[.slice iq' 0 ia', .slice eq' 0 ea', .slice tq' 0 ta', .int .i64 0] 28) := ⟨_, rfl⟩
  have H6 : Hid (Below w.heap.size w W6) := by
    have nb : Below W5.heap.size W5 W6 := by rw [hW6]; exact (Below.refl _ W5).alloc (Nat.le_refl _) _
    exact below2 (below2 H3.out.2 hw5.out) nb
  clear a2 x0 x1 hw5 H3
  go_upto_region 6 with fail
  rw [← hW6]
  clear hW6
  generalize W5.heap.size = p5 at *
  clear W5
  have k := K.out.kn W6 H6.out
  go_wp2_with fail
  refine k.mono ?_
  rintro e W7 ⟨rfl, hw7⟩
  have H7 : Hid (Below w.heap.size w W7) := below2 H6.out hw7
  clear k hw7 H6
  go_wp2
  go_ret
  exact ⟨rfl, H7.out⟩
theorem app_lt (l : Bs) (b : ByteArray) : lt (YtchinflkjcebjaaGreatDoor.bk l ++ b) = l ++ lt b := by
  unfold lt
  rw [ByteArray.data_append, Array.toList_append]
  rfl
theorem codeStays_any (a b : ByteArray) (w : World) (ha : a.size ≤ 140737488351232) (hb : b.size ≤ 140737488351232) (ht : Tabs w) : Calls Tryz.prog 3 #[.agg #[.string a, .string b]] w fun e w' => e = .returned (.bool true) ∧ Below w.heap.size w w' := by
  have HT : Hid (∀ W, Below w.heap.size w W → Tabs W) := fun W hW => ht.next hW
  have hla := lt_len a
  have hlb := lt_len b
  have hN : 0 ≤ asmN (lt a) ∧ asmN (lt a) ≤ 300000000000000 := by
    rcases asm_cases (lt a) with h | ⟨-, h1, -, n, h2, h3⟩
    · rw [h.2.1]; decide
    · refine ⟨by omega, ?_⟩
      rw [h2]
      have := asm_le h3
      omega
  have K : Ks w a b (asmC (lt a)) (asmE (lt a)) (asmN (lt a)) (lineP (lt a) (asmN (lt a))) := by
    refine ⟨fun W hW => ?_, fun W => lineL_any a _ W (by omega) hN.1 hN.2, fun j hj W hW => ?_, fun j hj => cat_eq _ _ (by rw [bk_size, List.length_take]; omega), fun W hW => known_any W (HT.out _ hW)⟩
    · refine (assemble_any a W (by omega) (HT.out _ hW)).mono ?_
      rintro e w' ⟨iq, ia, eq, ea, tq, ta, he, hh⟩
      obtain ⟨Es, F⟩ := hh.out
      exact ⟨iq, ia, eq, ea, tq, ta, he, F.bel⟩
    · have hle := lineP_le _ _ _ hj
      have hsz : (YtchinflkjcebjaaGreatDoor.bk ((lt a).take j) ++ b).size ≤ 281474976710656 := by
        rw [← lt_len, app_lt, List.length_append, List.length_take]
        omega
      have := assemble_any (YtchinflkjcebjaaGreatDoor.bk ((lt a).take j) ++ b) W hsz (HT.out _ hW)
      have hS : asmC (lt (YtchinflkjcebjaaGreatDoor.bk ((lt a).take j) ++ b)) = cz ∧ asmE (lt (YtchinflkjcebjaaGreatDoor.bk ((lt a).take j) ++ b)) = 131 ∧ asmN (lt (YtchinflkjcebjaaGreatDoor.bk ((lt a).take j) ++ b)) = asmN (lt a) := by
        rw [app_lt]
        rcases asm_cases (lt a) with h | ⟨-, h1, -, n, h2, h3⟩
        · rw [h.2.1] at hj
          have := (lineP_count _ _ _ hj).1
          omega
        · rw [h2] at hj ⊢
          have h4 := asm_stays (more := lt b) h3 hj
          unfold asmC asmE asmN
          rw [h4]
          exact ⟨rfl, rfl, rfl⟩
      rw [hS.1, hS.2.1, hS.2.2] at this
      refine this.mono ?_
      rintro e w' ⟨iq, ia, eq, ea, tq, ta, he, hh⟩
      obtain ⟨Es, F⟩ := hh.out
      exact ⟨iq, ia, eq, ea, tq, ta, he, F.bel⟩
  generalize asmC (lt a) = d at K
  rcases asm_cases (lt a) with h | h
  · rw [h.1] at K
    exact stays_ok w a b d _ _ K
  · rw [h.1] at K
    cases hR : lineP (lt a) (asmN (lt a)) with
    | none => rw [hR] at K; exact stays_no w a b d _ K
    | some j => rw [hR] at K; exact stays_yes w a b d _ j K
end Go.Proofs.YtchinflkjcebjaaGreatDoor
