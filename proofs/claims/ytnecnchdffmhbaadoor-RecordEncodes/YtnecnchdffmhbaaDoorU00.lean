import Derived.Test.YtnecnchdffmhbaaDoorO20
import Derived.Test.YtnecnchdffmhbaaDoorO17
namespace Go.Proofs.YtnecnchdffmhbaaDoor
open Go.RowKit

theorem run_makeE (M : Nat) (hM : M ≤ 2199023255552) : ∃ Z : Array Value, Z.size = M * 6 ∧ ∀ w : World, (Instr.makeSlice 26 (.int .i64 (M : Int)) (.int .i64 (M : Int))).run Tryd.prog w = .ok (.slice (some ⟨w.heap.size, 0, none⟩) M M) (w.alloc (.cells Z 54)) := by
  obtain ⟨i, hq, hz, hi, hb⟩ := info_parts infoE
  refine ⟨_, size_madeCells (Value.agg #[.int .i64 0, .int .i64 0, .string ⟨#[]⟩, .int .i64 0, .int .i64 0, .string ⟨#[]⟩]).cells (M * 6), fun w => ?_⟩
  have := run_make (P := Tryd.prog) w 26 54 i _ Tryd.underlying26 hq hz .i64 .i64 (M : Int) (M : Int) (by omega) (by omega) (by rw [hb]; omega) (by omega)
  rw [Int.toNat_natCast, hi] at this
  exact this
theorem cutHi (g o n cap k : Nat) (hk : k ≤ cap) : ∀ w : World, (Instr.slice 26 (.slice (some ⟨g, o, none⟩) n cap) none (some (.int .i64 (k : Int))) none).run Tryd.prog w = .ok (.slice (some ⟨g, o, none⟩) k cap) w := fun w => by
  have h0 : (0 : Int) ≤ (k : Int) := by omega
  have h1 : (k : Int) ≤ (cap : Int) := by omega
  simp [go_sem, Tryd.underlying26, h0, h1, Addr.add]
theorem ret_tw {w : World} {R : Nat} {a b c d e : Value} {tm : Array Value} (h : Full w R 28 [a, b, c, d, e]) (h2 : tm[2]?.getD undef = .pointer (some ⟨R, 0, none⟩)) : (results Tryd.f15 tm).run Tryd.prog w = .ok (.agg #[a, b, c, d, e]) w := by
  obtain ⟨⟨⟨r0, g0⟩, ⟨r1, g1⟩, r2, g2⟩, ⟨r3, g3⟩, r4, g4⟩ := h.five2
  simp [results, Tryd.results15, go_sem, h2, r0, r1, r2, r3, r4]
/-- Where twin stands in its loop: the list's block, written up to a place. -/
structure TwI (W : World) (A R G : Nat) (rcv : List Value) (L : List Ev) (i : Nat) (wr : World) : Prop where
  a : Full wr A 28 rcv
  r : Full wr R 28 [.int .i64 0, .int .i64 0, .string ⟨#[]⟩, .int .i64 0, .slice none 0 0]
  g : ∃ rest, rest.length = (L.length + 1 - i) * 6 ∧ Full wr G 54 ((L.take i).flatMap ec ++ rest)
  bel : Below W.heap.size W wr
theorem TwI.put {W : World} {A R G : Nat} {rcv : List Value} {L : List Ev} {i : Nat} {wr : World} (h : TwI W A R G rcv L i wr) (hi : i ≤ L.length) (hG : W.heap.size ≤ G) (u : List Value) (hu : u.length = 6) :
    ∃ rest, rest.length = (L.length - i) * 6 ∧ Full (wr.setCells G (i * 6) u) G 54 ((L.take i).flatMap ec ++ (u ++ rest)) ∧ Full (wr.setCells G (i * 6) u) A 28 rcv ∧ Full (wr.setCells G (i * 6) u) R 28 [.int .i64 0, .int .i64 0, .string ⟨#[]⟩, .int .i64 0, .slice none 0 0] ∧ Below W.heap.size W (wr.setCells G (i * 6) u) := by
  obtain ⟨rest, hr, hf⟩ := h.g
  have hl : ((L.take i).flatMap ec).length = i * 6 := by rw [ec_flat, List.length_take, Nat.min_eq_left hi]
  have hcat : rest = rest.take 6 ++ rest.drop 6 := (List.take_append_drop 6 rest).symm
  rw [hcat] at hf
  have hp := Full.put u hf (by rw [hu, List.length_take]; omega)
  rw [hl] at hp
  refine ⟨rest.drop 6, by rw [List.length_drop]; omega, hp, h.a.other (h.a.ne hf (by decide)), h.r.other (h.r.ne hf (by decide)), below_sets h.bel hG _ _⟩
theorem TwI.cells {W : World} {A R G : Nat} {rcv : List Value} {L : List Ev} {i : Nat} {wr : World} (h : TwI W A R G rcv L i wr) (hi : i ≤ L.length) (j : Nat) (hj : j < 6) : ∃ v, wr.cell? ⟨G, i * 6 + j, none⟩ = some v ∧ wr.frozen? ⟨G, i * 6 + j, none⟩ = false := by
  obtain ⟨rest, hr, hf⟩ := h.g
  have hl : ((L.take i).flatMap ec).length = i * 6 := by rw [ec_flat, List.length_take, Nat.min_eq_left hi]
  have hlt : i * 6 + j < ((L.take i).flatMap ec ++ rest).length := by rw [List.length_append, hl, hr]; omega
  exact ⟨_, hf.cell (i * 6 + j) _ (List.getElem?_eq_getElem hlt)⟩
set_option maxRecDepth 100000 in
set_option maxHeartbeats 2000000 in
theorem twin_any (W : World) (ph tr : Int) (out : ByteArray) (inp : Int) (q : Option Addr) (cap : Nat) (L : List Ev) (hR : Row W W.heap.size q L.length (L.flatMap ec)) (hn : L.length ≤ 2199023255488) :
    Calls Tryd.prog 15 #[.agg (recC ph tr out inp q L.length cap)] W fun e w' => ∃ G, e = .returned (.agg (recC ph tr out inp (some ⟨G, 0, none⟩) L.length (L.length + 1))) ∧ Hid (W.heap.size ≤ G ∧ (∃ rest, Full w' G 54 (L.flatMap ec ++ rest)) ∧ Below W.heap.size W w') := by
  obtain ⟨A, hA⟩ : ∃ A, W.heap.size = A := ⟨_, rfl⟩
  obtain ⟨X2, hX2⟩ : ∃ X, (W.alloc (.cells (recC ph tr out inp q L.length cap) 28)).alloc (.cells #[.int .i64 0, .int .i64 0, .string ⟨#[]⟩, .int .i64 0, .slice none 0 0] 28) = X := ⟨_, rfl⟩
  have b2 : Below W.heap.size W X2 := by rw [← hX2]; exact ((Below.refl _ W).alloc (Nat.le_refl _) _).alloc (by simp) _
  have fA : Full X2 A 28 [.int .i64 ph, .int .i64 tr, .string out, .int .i64 inp, .slice q L.length cap] := by
    rw [← hX2, ← hA]
    exact (Full.new W _ _).next ((Below.refl _ _).alloc (Nat.le_refl _) _)
  have fB : Full X2 (A + 1) 28 [.int .i64 0, .int .i64 0, .string ⟨#[]⟩, .int .i64 0, .slice none 0 0] := by
    have h := Full.new (W.alloc (.cells (recC ph tr out inp q L.length cap) 28)) #[.int .i64 0, .int .i64 0, .string ⟨#[]⟩, .int .i64 0, .slice none 0 0] 28
    rw [World.size_alloc, hX2, hA] at h
    exact h
  have z2 : X2.heap.size = A + 2 := by rw [← hX2, World.size_alloc, World.size_alloc, hA]
  obtain ⟨n, hln⟩ : ∃ n, L.length = n := ⟨_, rfl⟩
  obtain ⟨Z, hZ, RM⟩ := run_makeE (n + 1) (by omega)
  have RM2 : (Instr.makeSlice 26 (.int .i64 ((n : Int) + 1)) (.int .i64 ((n : Int) + 1))).run Tryd.prog X2 = .ok (.slice (some ⟨A + 2, 0, none⟩) (n + 1) (n + 1)) (X2.alloc (.cells Z 54)) := by
    have h := RM X2
    rw [z2, show (((n + 1 : Nat)) : Int) = (n : Int) + 1 by omega] at h
    exact h
  obtain ⟨X3, hX3⟩ : ∃ X, X2.alloc (.cells Z 54) = X := ⟨_, rfl⟩
  rw [hX3] at RM2
  have n3 : Below X2.heap.size X2 X3 := by rw [← hX3]; exact (Below.refl _ _).alloc (Nat.le_refl _) _
  have f3 : Full X3 (A + 2) 54 Z.toList := by
    have h := Full.new X2 Z 54
    rw [z2, hX3] at h
    exact h
  rw [hln] at hX2 fA hn ⊢
  unfold recC at hX2 ⊢
  have HI0 : Hid (TwI W A (A + 1) (A + 2) [.int .i64 ph, .int .i64 tr, .string out, .int .i64 inp, .slice q n cap] L 0 X3) := ⟨fA.next n3, fB.next n3, ⟨Z.toList, by rw [Array.length_toList, hZ, hln]; rfl, by rw [List.take_zero]; exact f3⟩, b2.trans (n3.mono b2.size)⟩
  have HH : Hid (Row W W.heap.size q L.length (L.flatMap ec) ∧ L.length = n ∧ W.heap.size ≤ A + 2 ∧ W.heap.size = A) := ⟨hR, hln, by omega, hA⟩
  have qn : (n : Int) ≤ 2199023255488 := by omega
  have q0n : (0 : Int) ≤ (n : Int) := by omega
  obtain ⟨⟨⟨r0, -⟩, ⟨r1, -⟩, r2, -⟩, ⟨r3, -⟩, r4, -⟩ := fA.five2
  clear hR hln b2 fA fB n3 f3 RM hX3 z2
  go_enter Tryd.func15, Tryd.ntmps15
  go_wp2_with fail
  go_loopw [4] (fun v wr => ∃ i : Nat, v = .int .i64 (i : Int) ∧ i ≤ n ∧ Hid (TwI W A (A + 1) (A + 2) [.int .i64 ph, .int .i64 tr, .string out, .int .i64 inp, .slice q n cap] L i wr)) (fun v _ => n - (intOf v).toNat)
  case atStart => exact ⟨0, rfl, Nat.zero_le _, HI0⟩
  case round =>
    obtain ⟨i, rfl, him, HI⟩ := hrel
    clear HI0 RM2 r0 r1 r2 r3 r4
    obtain ⟨⟨⟨r0, -⟩, ⟨r1, -⟩, r2, -⟩, ⟨r3, -⟩, r4, -⟩ := HI.out.a.five2
    by_cases hlt : i < n
    · have qi : (i : Int) < (n : Int) := by omega
      have q0 : (0 : Int) ≤ (i : Int) := by omega
      have qi1 : (i : Int) < (n : Int) + 1 := by omega
      obtain ⟨e, he⟩ : ∃ e, L[i]? = some e := ⟨L[i]'(by rw [HH.out.2.1]; exact hlt), List.getElem?_eq_getElem _⟩
      obtain ⟨g, o, rfl, hgB, hr1⟩ := ev_at (HH.out.1.below HI.out.bel (Nat.le_refl _)) i e he
      have hli : i ≤ L.length := by rw [HH.out.2.1]; exact him
      obtain ⟨rest, hrl, hp, hpa, hpr, hpb⟩ := HI.out.put hli HH.out.2.2.1 (ec e) rfl
      obtain ⟨w0, z0, y0⟩ := HI.out.cells hli 0 (by decide)
      obtain ⟨w1, z1, y1⟩ := HI.out.cells hli 1 (by decide)
      obtain ⟨w2, z2, y2⟩ := HI.out.cells hli 2 (by decide)
      obtain ⟨w3, z3, y3⟩ := HI.out.cells hli 3 (by decide)
      obtain ⟨w4, z4, y4⟩ := HI.out.cells hli 4 (by decide)
      obtain ⟨w5, z5, y5⟩ := HI.out.cells hli 5 (by decide)
      have HN : Hid (TwI W A (A + 1) (A + 2) [.int .i64 ph, .int .i64 tr, .string out, .int .i64 inp, .slice (some ⟨g, o, none⟩) n cap] L (i + 1) (wr.setCells (A + 2) (i * 6) (ec e))) := ⟨hpa, hpr, ⟨rest, by rw [hrl, HH.out.2.1]; omega, by
        rw [List.take_add_one, he, List.flatMap_append, List.append_assoc]
        simpa using hp⟩, hpb⟩
      obtain ⟨k, en, nm, vk, vn, vs⟩ := e
      have x0 := hr1 0 _ rfl
      have x1 := hr1 1 _ rfl
      have x2 := hr1 2 _ rfl
      have x3 := hr1 3 _ rfl
      have x4 := hr1 4 _ rfl
      have x5 := hr1 5 _ rfl
      unfold sV at x2 x5
      simp only [Nat.add_zero] at x0 z0 y0
      simp only [ec, sV, World.setCells, Nat.add_assoc, Nat.reduceAdd] at HN
      clear hr1 he hgB hp hpa hpr hpb HI hrl hli
      go_wp2_with fail
      exact ⟨⟨i + 1, by go_num, by omega, HN⟩, by simp [intOf]; omega⟩
    · obtain rfl : i = n := by omega
      have qi : ¬ (i : Int) < (i : Int) := by omega
      have q0 : (0 : Int) ≤ (i : Int) := by omega
      have qi1 : (i : Int) < (i : Int) + 1 := by omega
      have hli : i ≤ L.length := by rw [HH.out.2.1]; exact him
      obtain ⟨rest, hrl, hp, hpa, hpr, hpb⟩ := HI.out.put hli HH.out.2.2.1 [.int .i64 77, .int .i64 0, .string ⟨#[]⟩, .int .i64 0, .int .i64 0, .string ⟨#[]⟩] rfl
      obtain ⟨w0, z0, y0⟩ := HI.out.cells hli 0 (by decide)
      obtain ⟨w1, z1, y1⟩ := HI.out.cells hli 1 (by decide)
      obtain ⟨w2, z2, y2⟩ := HI.out.cells hli 2 (by decide)
      obtain ⟨w3, z3, y3⟩ := HI.out.cells hli 3 (by decide)
      obtain ⟨w4, z4, y4⟩ := HI.out.cells hli 4 (by decide)
      obtain ⟨w5, z5, y5⟩ := HI.out.cells hli 5 (by decide)
      simp only [Nat.add_zero] at z0 y0
      obtain ⟨W4, hW4⟩ : ∃ W4, wr.setCells (A + 2) (i * 6) [.int .i64 77, .int .i64 0, .string ⟨#[]⟩, .int .i64 0, .int .i64 0, .string ⟨#[]⟩] = W4 := ⟨_, rfl⟩
      rw [hW4] at hp hpa hpr hpb
      rw [List.take_of_length_le (by rw [HH.out.2.1]; exact Nat.le_refl _)] at hp
      simp only [World.setCells, Nat.add_assoc, Nat.reduceAdd] at hW4
      have RS := cutHi (A + 2) 0 (i + 1) (i + 1) i (by omega)
      obtain ⟨W5, hW5⟩ : ∃ W5, W4.setCell ⟨A, 4, none⟩ (.slice (some ⟨A + 2, 0, none⟩) i (i + 1)) = W5 := ⟨_, rfl⟩
      have f5 : Full W5 A 28 [.int .i64 ph, .int .i64 tr, .string out, .int .i64 inp, .slice (some ⟨A + 2, 0, none⟩) i (i + 1)] := by rw [← hW5]; exact Full.put1 (a := [.int .i64 ph, .int .i64 tr, .string out, .int .i64 inp]) (d := []) hpa _
      have r5 : Full W5 (A + 1) 28 [.int .i64 0, .int .i64 0, .string ⟨#[]⟩, .int .i64 0, .slice none 0 0] := by rw [← hW5]; exact hpr.other1 (by show A + 1 ≠ A; omega)
      have g5 : Full W5 (A + 2) 54 (L.flatMap ec ++ ([.int .i64 77, .int .i64 0, .string ⟨#[]⟩, .int .i64 0, .int .i64 0, .string ⟨#[]⟩] ++ rest)) := by rw [← hW5]; exact hp.other1 (by show A + 2 ≠ A; omega)
      have b5 : Below W.heap.size W W5 := by rw [← hW5]; exact hpb.setCell (p := ⟨A, 4, none⟩) (by show W.heap.size ≤ A; exact Nat.le_of_eq HH.out.2.2.2) _
      obtain ⟨-, -, ⟨a4, l4⟩⟩ := hpa.five2
      obtain ⟨⟨⟨p0, -⟩, ⟨p1, -⟩, p2, -⟩, ⟨p3, -⟩, p4, -⟩ := hpa.five2
      obtain ⟨⟨⟨s0, -⟩, ⟨s1, -⟩, s2, -⟩, ⟨s3, -⟩, s4, -⟩ := f5.five2
      obtain ⟨⟨⟨t0, u0⟩, ⟨t1, u1⟩, t2, u2⟩, ⟨t3, u3⟩, t4, u4⟩ := r5.five2
      have H5 : Hid (Full W5 (A + 1) 28 [.int .i64 0, .int .i64 0, .string ⟨#[]⟩, .int .i64 0, .slice none 0 0] ∧ Full W5 (A + 2) 54 (L.flatMap ec ++ ([.int .i64 77, .int .i64 0, .string ⟨#[]⟩, .int .i64 0, .int .i64 0, .string ⟨#[]⟩] ++ rest)) ∧ Below W.heap.size W W5) := ⟨r5, g5, b5⟩
      clear hp hpa hpr hpb f5 r5 g5 b5 HI hrl hli
      go_wp2_with fail
      have f6 : Full (W5.setCells (A + 1) 0 [.int .i64 ph, .int .i64 tr, .string out, .int .i64 inp, .slice (some ⟨A + 2, 0, none⟩) i (i + 1)]) (A + 1) 28 [.int .i64 ph, .int .i64 tr, .string out, .int .i64 inp, .slice (some ⟨A + 2, 0, none⟩) i (i + 1)] := Full.put (a := []) (b := [.int .i64 0, .int .i64 0, .string ⟨#[]⟩, .int .i64 0, .slice none 0 0]) (d := []) _ H5.out.1 rfl
      have g6 : Full (W5.setCells (A + 1) 0 [.int .i64 ph, .int .i64 tr, .string out, .int .i64 inp, .slice (some ⟨A + 2, 0, none⟩) i (i + 1)]) (A + 2) 54 (L.flatMap ec ++ ([.int .i64 77, .int .i64 0, .string ⟨#[]⟩, .int .i64 0, .int .i64 0, .string ⟨#[]⟩] ++ rest)) := H5.out.2.1.other (by show A + 2 ≠ A + 1; omega)
      have b6 : Below W.heap.size W (W5.setCells (A + 1) 0 [.int .i64 ph, .int .i64 tr, .string out, .int .i64 inp, .slice (some ⟨A + 2, 0, none⟩) i (i + 1)]) := below_sets H5.out.2.2 (by have := HH.out.2.2.2; omega) 0 _
      simp only [World.setCells, Nat.zero_add, Nat.reduceAdd] at f6 g6 b6
      refine bodyPost_ret (ret_tw f6 rfl) rfl ?_
      rw [HH.out.2.2.2] at b6
      exact ⟨A + 2, rfl, by omega, ⟨_, g6⟩, b6⟩
end Go.Proofs.YtnecnchdffmhbaaDoor
