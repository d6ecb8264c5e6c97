import Derived.Test.YtnecnchdffmhbaaDoorU00
namespace Go.Proofs.YtnecnchdffmhbaaDoor
open Go.RowKit

set_option maxRecDepth 100000 in
set_option maxHeartbeats 2000000 in
theorem twin_sign (W : World) (ph tr : Int) (out : ByteArray) (inp : Int) (q : Option Addr) (cap : Nat) (L : List Ev) (hR : Row W W.heap.size q L.length (L.flatMap ec)) (hn : L.length ≤ 2199023255488) :
    Calls Tryd.prog 15 #[.agg (recC ph tr out inp q L.length cap)] W fun e w' => ∃ G, e = .returned (.agg (recC ph tr out inp (some ⟨G, 0, none⟩) L.length (L.length + 1))) ∧ Hid (W.heap.size ≤ G ∧ (∃ rest, Full w' G 54 (L.flatMap ec ++ ([.int .i64 77, .int .i64 0, .string ⟨#[]⟩, .int .i64 0, .int .i64 0, .string ⟨#[]⟩] ++ rest))) ∧ Below W.heap.size W w') := by
  obtain ⟨A, hA⟩ : ∃ A, W.heap.size = A := ⟨_, rfl⟩
  obtain ⟨X2, hX2⟩ : ∃ X, (W.alloc (.cells (recC ph tr out inp q L.length cap) 28)).alloc (.cells #[.int .i64 0, .int .i64 0, .string ⟨#[]⟩, .int .i64 0, .slice none 0 0] 28) = X := ⟨_, rfl⟩
  have b2 : Below W.heap.size W X2 := by rw [← hX2]; exact ((Below.refl _ W).alloc (Nat.le_refl _) _).alloc (by simp) _
  have fA : Full X2 A 28 [.int .i64 ph, .int .i64 tr, .string out, .int .i64 inp, .slice q L.length cap] := by
    rw [← hX2, ← hA]
    exact (Full.new W _ _).next ((Below.refl _ _).alloc (Nat.le_refl _) _)
  have fB : Full X2 (A + 1) 28 [.int .i64 0, .int .i64 0, .string ⟨#[]⟩, .int .i64 0, .slice none 0 0] := by
    have h := Full.new (W.alloc (.cells (recC ph tr out inp q L.length cap) 28)) #[.int .i64 0, .int .i64 0, .string ⟨#[]⟩, .int .i64 0, .slice none 0 0] 28
    rw [World.size_alloc, hX2, hA] at h
    exact h
  have z2 : X2.heap.size = A + 2 := by rw [← hX2, World.size_alloc, World.size_alloc, hA]
  obtain ⟨n, hln⟩ : ∃ n, L.length = n := ⟨_, rfl⟩
  obtain ⟨Z, hZ, RM⟩ := run_makeE (n + 1) (by omega)
  have RM2 : (Instr.makeSlice 26 (.int .i64 ((n : Int) + 1)) (.int .i64 ((n : Int) + 1))).run Tryd.prog X2 = .ok (.slice (some ⟨A + 2, 0, none⟩) (n + 1) (n + 1)) (X2.alloc (.cells Z 54)) := by
    have h := RM X2
    rw [z2, show (((n + 1 : Nat)) : Int) = (n : Int) + 1 by omega] at h
    exact h
  obtain ⟨X3, hX3⟩ : ∃ X, X2.alloc (.cells Z 54) = X := ⟨_, rfl⟩
  rw [hX3] at RM2
  have n3 : Below X2.heap.size X2 X3 := by rw [← hX3]; exact (Below.refl _ _).alloc (Nat.le_refl _) _
  have f3 : Full X3 (A + 2) 54 Z.toList := by
    have h := Full.new X2 Z 54
    rw [z2, hX3] at h
    exact h
  rw [hln] at hX2 fA hn ⊢
  unfold recC at hX2 ⊢
  have HI0 : Hid (TwI W A (A + 1) (A + 2) [.int .i64 ph, .int .i64 tr, .string out, .int .i64 inp, .slice q n cap] L 0 X3) := ⟨fA.next n3, fB.next n3, ⟨Z.toList, by rw [Array.length_toList, hZ, hln]; rfl, by rw [List.take_zero]; exact f3⟩, b2.trans (n3.mono b2.size)⟩
  have HH : Hid (Row W W.heap.size q L.length (L.flatMap ec) ∧ L.length = n ∧ W.heap.size ≤ A + 2 ∧ W.heap.size = A) := ⟨hR, hln, by omega, hA⟩
  have qn : (n : Int) ≤ 2199023255488 := by omega
  have q0n : (0 : Int) ≤ (n : Int) := by omega
  obtain ⟨⟨⟨r0, -⟩, ⟨r1, -⟩, r2, -⟩, ⟨r3, -⟩, r4, -⟩ := fA.five2
  clear hR hln b2 fA fB n3 f3 RM hX3 z2
  go_enter Tryd.func15, Tryd.ntmps15
  go_wp2_with fail
  go_loopw [4] (fun v wr => ∃ i : Nat, v = .int .i64 (i : Int) ∧ i ≤ n ∧ Hid (TwI W A (A + 1) (A + 2) [.int .i64 ph, .int .i64 tr, .string out, .int .i64 inp, .slice q n cap] L i wr)) (fun v _ => n - (intOf v).toNat)
  case atStart => exact ⟨0, rfl, Nat.zero_le _, HI0⟩
  case round =>
    obtain ⟨i, rfl, him, HI⟩ := hrel
    clear HI0 RM2 r0 r1 r2 r3 r4
    obtain ⟨⟨⟨r0, -⟩, ⟨r1, -⟩, r2, -⟩, ⟨r3, -⟩, r4, -⟩ := HI.out.a.five2
    by_cases hlt : i < n
    · have qi : (i : Int) < (n : Int) := by omega
      have q0 : (0 : Int) ≤ (i : Int) := by omega
      have qi1 : (i : Int) < (n : Int) + 1 := by omega
      obtain ⟨e, he⟩ : ∃ e, L[i]? = some e := ⟨L[i]'(by rw [HH.out.2.1]; exact hlt), List.getElem?_eq_getElem _⟩
      obtain ⟨g, o, rfl, hgB, hr1⟩ := ev_at (HH.out.1.below HI.out.bel (Nat.le_refl _)) i e he
      have hli : i ≤ L.length := by rw [HH.out.2.1]; exact him
      obtain ⟨rest, hrl, hp, hpa, hpr, hpb⟩ := HI.out.put hli HH.out.2.2.1 (ec e) rfl
      obtain ⟨w0, z0, y0⟩ := HI.out.cells hli 0 (by decide)
      obtain ⟨w1, z1, y1⟩ := HI.out.cells hli 1 (by decide)
      obtain ⟨w2, z2, y2⟩ := HI.out.cells hli 2 (by decide)
      obtain ⟨w3, z3, y3⟩ := HI.out.cells hli 3 (by decide)
      obtain ⟨w4, z4, y4⟩ := HI.out.cells hli 4 (by decide)
      obtain ⟨w5, z5, y5⟩ := HI.out.cells hli 5 (by decide)
      have HN : Hid (TwI W A (A + 1) (A + 2) [.int .i64 ph, .int .i64 tr, .string out, .int .i64 inp, .slice (some ⟨g, o, none⟩) n cap] L (i + 1) (wr.setCells (A + 2) (i * 6) (ec e))) := ⟨hpa, hpr, ⟨rest, by rw [hrl, HH.out.2.1]; omega, by
        rw [List.take_add_one, he, List.flatMap_append, List.append_assoc]
        simpa using hp⟩, hpb⟩
      obtain ⟨k, en, nm, vk, vn, vs⟩ := e
      have x0 := hr1 0 _ rfl
      have x1 := hr1 1 _ rfl
      have x2 := hr1 2 _ rfl
      have x3 := hr1 3 _ rfl
      have x4 := hr1 4 _ rfl
      have x5 := hr1 5 _ rfl
      unfold sV at x2 x5
      simp only [Nat.add_zero] at x0 z0 y0
      simp only [ec, sV, World.setCells, Nat.add_assoc, Nat.reduceAdd] at HN
      clear hr1 he hgB hp hpa hpr hpb HI hrl hli
      go_wp2_with fail
      exact ⟨⟨i + 1, by go_num, by omega, HN⟩, by simp [intOf]; omega⟩
    · obtain rfl : i = n := by omega
      have qi : ¬ (i : Int) < (i : Int) := by omega
      have q0 : (0 : Int) ≤ (i : Int) := by omega
      have qi1 : (i : Int) < (i : Int) + 1 := by omega
      have hli : i ≤ L.length := by rw [HH.out.2.1]; exact him
      obtain ⟨rest, hrl, hp, hpa, hpr, hpb⟩ := HI.out.put hli HH.out.2.2.1 [.int .i64 77, .int .i64 0, .string ⟨#[]⟩, .int .i64 0, .int .i64 0, .string ⟨#[]⟩] rfl
      obtain ⟨w0, z0, y0⟩ := HI.out.cells hli 0 (by decide)
      obtain ⟨w1, z1, y1⟩ := HI.out.cells hli 1 (by decide)
      obtain ⟨w2, z2, y2⟩ := HI.out.cells hli 2 (by decide)
      obtain ⟨w3, z3, y3⟩ := HI.out.cells hli 3 (by decide)
      obtain ⟨w4, z4, y4⟩ := HI.out.cells hli 4 (by decide)
      obtain ⟨w5, z5, y5⟩ := HI.out.cells hli 5 (by decide)
      simp only [Nat.add_zero] at z0 y0
      obtain ⟨W4, hW4⟩ : ∃ W4, wr.setCells (A + 2) (i * 6) [.int .i64 77, .int .i64 0, .string ⟨#[]⟩, .int .i64 0, .int .i64 0, .string ⟨#[]⟩] = W4 := ⟨_, rfl⟩
      rw [hW4] at hp hpa hpr hpb
      rw [List.take_of_length_le (by rw [HH.out.2.1]; exact Nat.le_refl _)] at hp
      simp only [World.setCells, Nat.add_assoc, Nat.reduceAdd] at hW4
      have RS := cutHi (A + 2) 0 (i + 1) (i + 1) i (by omega)
      obtain ⟨W5, hW5⟩ : ∃ W5, W4.setCell ⟨A, 4, none⟩ (.slice (some ⟨A + 2, 0, none⟩) i (i + 1)) = W5 := ⟨_, rfl⟩
      have f5 : Full W5 A 28 [.int .i64 ph, .int .i64 tr, .string out, .int .i64 inp, .slice (some ⟨A + 2, 0, none⟩) i (i + 1)] := by rw [← hW5]; exact Full.put1 (a := [.int .i64 ph, .int .i64 tr, .string out, .int .i64 inp]) (d := []) hpa _
      have r5 : Full W5 (A + 1) 28 [.int .i64 0, .int .i64 0, .string ⟨#[]⟩, .int .i64 0, .slice none 0 0] := by rw [← hW5]; exact hpr.other1 (by show A + 1 ≠ A; omega)
      have g5 : Full W5 (A + 2) 54 (L.flatMap ec ++ ([.int .i64 77, .int .i64 0, .string ⟨#[]⟩, .int .i64 0, .int .i64 0, .string ⟨#[]⟩] ++ rest)) := by rw [← hW5]; exact hp.other1 (by show A + 2 ≠ A; omega)
      have b5 : Below W.heap.size W W5 := by rw [← hW5]; exact hpb.setCell (p := ⟨A, 4, none⟩) (by show W.heap.size ≤ A; exact Nat.le_of_eq HH.out.2.2.2) _
      obtain ⟨-, -, ⟨a4, l4⟩⟩ := hpa.five2
      obtain ⟨⟨⟨p0, -⟩, ⟨p1, -⟩, p2, -⟩, ⟨p3, -⟩, p4, -⟩ := hpa.five2
      obtain ⟨⟨⟨s0, -⟩, ⟨s1, -⟩, s2, -⟩, ⟨s3, -⟩, s4, -⟩ := f5.five2
      obtain ⟨⟨⟨t0, u0⟩, ⟨t1, u1⟩, t2, u2⟩, ⟨t3, u3⟩, t4, u4⟩ := r5.five2
      have H5 : Hid (Full W5 (A + 1) 28 [.int .i64 0, .int .i64 0, .string ⟨#[]⟩, .int .i64 0, .slice none 0 0] ∧ Full W5 (A + 2) 54 (L.flatMap ec ++ ([.int .i64 77, .int .i64 0, .string ⟨#[]⟩, .int .i64 0, .int .i64 0, .string ⟨#[]⟩] ++ rest)) ∧ Below W.heap.size W W5) := ⟨r5, g5, b5⟩
      clear hp hpa hpr hpb f5 r5 g5 b5 HI hrl hli
      go_wp2_with fail
      have f6 : Full (W5.setCells (A + 1) 0 [.int .i64 ph, .int .i64 tr, .string out, .int .i64 inp, .slice (some ⟨A + 2, 0, none⟩) i (i + 1)]) (A + 1) 28 [.int .i64 ph, .int .i64 tr, .string out, .int .i64 inp, .slice (some ⟨A + 2, 0, none⟩) i (i + 1)] := Full.put (a := []) (b := [.int .i64 0, .int .i64 0, .string ⟨#[]⟩, .int .i64 0, .slice none 0 0]) (d := []) _ H5.out.1 rfl
      have g6 : Full (W5.setCells (A + 1) 0 [.int .i64 ph, .int .i64 tr, .string out, .int .i64 inp, .slice (some ⟨A + 2, 0, none⟩) i (i + 1)]) (A + 2) 54 (L.flatMap ec ++ ([.int .i64 77, .int .i64 0, .string ⟨#[]⟩, .int .i64 0, .int .i64 0, .string ⟨#[]⟩] ++ rest)) := H5.out.2.1.other (by show A + 2 ≠ A + 1; omega)
      have b6 : Below W.heap.size W (W5.setCells (A + 1) 0 [.int .i64 ph, .int .i64 tr, .string out, .int .i64 inp, .slice (some ⟨A + 2, 0, none⟩) i (i + 1)]) := below_sets H5.out.2.2 (by have := HH.out.2.2.2; omega) 0 _
      simp only [World.setCells, Nat.zero_add, Nat.reduceAdd] at f6 g6 b6
      refine bodyPost_ret (ret_tw f6 rfl) rfl ?_
      rw [HH.out.2.2.2] at b6
      exact ⟨A + 2, rfl, by omega, ⟨_, g6⟩, b6⟩
end Go.Proofs.YtnecnchdffmhbaaDoor
