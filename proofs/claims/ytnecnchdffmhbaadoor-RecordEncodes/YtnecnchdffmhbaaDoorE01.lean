import Derived.Test.YtnecnchdffmhbaaDoorU00
namespace Go.Proofs.YtnecnchdffmhbaaDoor
open Go.RowKit

theorem flat_len (L : List Ev) : (L.flatMap ec).length = L.length * 6 := ec_flat L
set_option maxRecDepth 100000 in
set_option maxHeartbeats 2000000 in
/-- left, of a twin that is as it was made. -/
theorem left_yes (W : World) (ph tr : Int) (out : ByteArray) (inp : Int) (L : List Ev) (G : Nat) (q2 : Option Addr) (c2 : Nat) (rest : List Value) (h1 : Full W G 54 (L.flatMap ec ++ ([.int .i64 77, .int .i64 0, .string ⟨#[]⟩, .int .i64 0, .int .i64 0, .string ⟨#[]⟩] ++ rest))) (h2 : Row W W.heap.size q2 L.length (L.flatMap ec)) (hn : L.length ≤ 140737488355328) :
    Calls Tryd.prog 20 #[.agg (recC ph tr out inp (some ⟨G, 0, none⟩) L.length (L.length + 1)), .agg (recC ph tr out inp q2 L.length c2)] W fun e w' => e = .returned (.bool true) ∧ Below W.heap.size W w' := by
  obtain ⟨X2, hX2⟩ : ∃ X, (W.alloc (.cells (recC ph tr out inp (some ⟨G, 0, none⟩) L.length (L.length + 1)) 28)).alloc (.cells (recC ph tr out inp q2 L.length c2) 28) = X := ⟨_, rfl⟩
  obtain ⟨A, hA⟩ : ∃ A, W.heap.size = A := ⟨_, rfl⟩
  have b2 : Below W.heap.size W X2 := by rw [← hX2]; exact ((Below.refl _ W).alloc (Nat.le_refl _) _).alloc (by simp) _
  have fA : Full X2 A 28 [.int .i64 ph, .int .i64 tr, .string out, .int .i64 inp, .slice (some ⟨G, 0, none⟩) L.length (L.length + 1)] := by
    rw [← hX2, ← hA]
    exact (Full.new W _ _).next ((Below.refl _ _).alloc (Nat.le_refl _) _)
  have fB : Full X2 (A + 1) 28 [.int .i64 ph, .int .i64 tr, .string out, .int .i64 inp, .slice q2 L.length c2] := by
    have h := Full.new (W.alloc (.cells (recC ph tr out inp (some ⟨G, 0, none⟩) L.length (L.length + 1)) 28)) (recC ph tr out inp q2 L.length c2) 28
    rw [World.size_alloc, hX2, hA] at h
    exact h
  have g2 := h1.next b2
  have R1 : Row X2 X2.heap.size (some ⟨G, 0, none⟩) L.length (L.flatMap ec) := fun _ => ⟨G, 0, rfl, g2.lt, g2.range⟩
  have R2 := (h2.below b2 (Nat.le_refl _)).up b2.size
  have HC := same_yes X2 ph tr out inp L (some ⟨G, 0, none⟩) q2 (L.length + 1) c2 R1 R2 hn
  have c77 : X2.cell? ⟨G, L.length * 6, none⟩ = some (.int .i64 77) := by
    have h := (g2.cell (L.length * 6) (.int .i64 77) (by
      rw [List.getElem?_append_right (by rw [flat_len]; exact Nat.le_refl _), flat_len, Nat.sub_self]
      rfl)).1
    exact h
  obtain ⟨n, hln⟩ : ∃ n, L.length = n := ⟨_, rfl⟩
  rw [hln] at hX2 fA fB HC c77 hn ⊢
  unfold recC at hX2 HC ⊢
  have z2 : X2.heap.size = A + 2 := by rw [← hX2, World.size_alloc, World.size_alloc, hA]
  have RS := cutHi G 0 n (n + 1) (n + 1) (Nat.le_refl _)
  rw [show ((n + 1 : Nat) : Int) = (n : Int) + 1 by omega] at RS
  obtain ⟨⟨⟨a0, -⟩, ⟨a1, -⟩, a2, -⟩, ⟨a3, -⟩, a4, -⟩ := fA.five2
  obtain ⟨⟨⟨d0, -⟩, ⟨d1, -⟩, d2, -⟩, ⟨d3, -⟩, d4, -⟩ := fB.five2
  have qn : (n : Int) ≤ 140737488355328 := by omega
  have qn0 : (0 : Int) ≤ (n : Int) := by omega
  have qn1 : (n : Int) < (n : Int) + 1 := by omega
  have HB : Hid (Below W.heap.size W X2 ∧ W.heap.size = A) := ⟨b2, hA⟩
  clear b2 fA fB g2 R1 R2 h1 h2 hln hn z2
  go_enter Tryd.func20, Tryd.ntmps20
  go_wp2_with fail
  refine HC.mono ?_
  rintro e w3 ⟨rfl, hb3⟩
  have HB3 : Hid (Below W.heap.size W w3) := HB.out.1.trans (hb3.mono HB.out.1.size)
  clear HC hb3 a0 a1 a2 a3 a4 d0 d1 d2 d3 d4 RS c77 hX2
  go_wp2_with fail
  go_ret
  exact ⟨rfl, (by first | exact HB3.out | (rw [← HB.out.2]; exact HB3.out))⟩
end Go.Proofs.YtnecnchdffmhbaaDoor
