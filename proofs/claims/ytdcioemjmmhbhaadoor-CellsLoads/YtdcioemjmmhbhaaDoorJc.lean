import Derived.Test.YtdcioemjmmhbhaaDoorRSv
namespace Go.Proofs.YtdcioemjmmhbhaaDoor
open Go.RowKit

/-- One byte more of a number: what is not there reads as 0. -/
def stepN (b : ByteArray) (i : Nat) (v : Int) : Int := if h : i < b.size then IntKind.u64.wrap (IntKind.u64.wrap (v * 256) + IntKind.u64.wrap ((b[i].toNat : Nat) : Int)) else IntKind.u64.wrap (v * 256)
def numR (b : ByteArray) (o : Nat) : Nat → Int
  | 0 => 0
  | k + 1 => stepN b (o + k) (numR b o k)

set_option maxRecDepth 100000 in
set_option maxHeartbeats 2000000 in
theorem rnumber_any (w : World) (b : ByteArray) (o k : Nat) (ho : o + k < 9223372036854775807) :
    Calls Tryd.prog 44 #[.string b, .int .i64 (o : Int), .int .i64 (k : Int)] w fun e w' => e = .returned (.int .u64 (numR b o k)) ∧ w' = w := by
  go_enter Tryd.func44, Tryd.ntmps44
  have hsum : IntKind.i64.wrap ((o : Int) + (k : Int)) = (o : Int) + (k : Int) := by rw [IntKind.wrap_i64]; omega
  go_wp2_with fail
  go_loopw [7, 8] (fun v7 v8 wr => ∃ i : Nat, i ≤ k ∧ v7 = .int .u64 (numR b o i) ∧ v8 = .int .i64 ((o + i : Nat) : Int) ∧ wr = w) (fun _ v _ => o + k - (intOf v).toNat)
  case atStart => exact ⟨0, Nat.zero_le _, rfl, by simp, rfl⟩
  case round =>
    obtain ⟨i, hi, rfl, rfl, rfl⟩ := hrel
    by_cases hlt : i < k
    · have l1 : ((o + i : Nat) : Int) < (o : Int) + (k : Int) := by omega
      have HN : Hid (numR b o (i + 1) = stepN b (o + i) (numR b o i)) := rfl
      generalize numR b o i = m at HN ⊢
      have hnx : IntKind.i64.wrap (((o + i : Nat) : Int) + 1) = ((o + (i + 1) : Nat) : Int) := by
        have : ((o + i : Nat) : Int) + 1 = ((o + (i + 1) : Nat) : Int) := by omega
        rw [this, IntKind.wrap_i64]; omega
      obtain ⟨j, hj⟩ : ∃ j, o + i = j := ⟨_, rfl⟩
      rw [hj] at l1 HN hnx ⊢
      by_cases hin : j < b.size
      · have l2 : (j : Int) < (b.size : Int) := by omega
        have l0 : (0 : Int) ≤ (j : Int) := by omega
        go_wp2_with fail
        exact ⟨⟨i + 1, by omega, by rw [HN.out]; unfold stepN; rw [dif_pos hin], by first | rfl | (push_cast; rfl) | go_num, by trivial⟩, by simp [intOf]; omega⟩
      · have l2 : ¬ (j : Int) < (b.size : Int) := by omega
        go_wp2_with fail
        refine ⟨⟨i + 1, by omega, by rw [HN.out]; unfold stepN; rw [dif_neg hin], by first | rfl | (push_cast; rfl) | go_num, by trivial⟩, by simp [intOf]; omega⟩
    · obtain rfl : i = k := by omega
      have l1 : ¬ ((o + i : Nat) : Int) < (o : Int) + (i : Int) := by omega
      go_wp2
      go_ret
      exact ⟨rfl, rfl⟩
end Go.Proofs.YtdcioemjmmhbhaaDoor
namespace Go.Proofs.YtdcioemjmmhbhaaDoor
open Go.RowKit

theorem stepN_small (b : ByteArray) (i : Nat) (v : Int) (h0 : 0 ≤ v) (h1 : v ≤ 72057594037927935) : v * 256 ≤ stepN b i v ∧ stepN b i v ≤ v * 256 + 255 := by
  unfold stepN
  simp only [IntKind.wrap_u64]
  split
  · rename_i h
    have := b[i].toNat_lt
    omega
  · omega
theorem numR_two (b : ByteArray) (o : Nat) : ∃ n : Nat, numR b o 2 = (n : Int) ∧ n ≤ 65535 := by
  have h1 := stepN_small b (o + 0) 0 (by decide) (by decide)
  have h2 := stepN_small b (o + 1) (stepN b (o + 0) 0) (by omega) (by omega)
  refine ⟨(numR b o 2).toNat, ?_, ?_⟩
  · have : numR b o 2 = stepN b (o + 1) (stepN b (o + 0) 0) := rfl
    omega
  · have : numR b o 2 = stepN b (o + 1) (stepN b (o + 0) 0) := rfl
    omega
/-- An element of a kind at a place, leniently, and how many bytes it takes. -/
def elR (b : ByteArray) (o : Nat) (kd : Int) : V × Nat :=
  if kd = 2 then ((2, wrap64 (numR b o 1), ⟨#[]⟩), 1)
  else if kd = 3 then (if b.size < o + 2 ∨ b.size < o + 2 + (numR b o 2).toNat then ((3, 0, ⟨#[]⟩), 2) else ((3, 0, b.extract (o + 2) (o + 2 + (numR b o 2).toNat)), 2 + (numR b o 2).toNat))
  else ((kd, wrap64 (numR b o 8), ⟨#[]⟩), 8)

set_option maxRecDepth 100000 in
set_option maxHeartbeats 2000000 in
theorem relement_any (w : World) (b : ByteArray) (o : Nat) (kd : Int) (hb : b.size ≤ 9223372036854775807) (ho : o < 9223372036854000000) :
    Calls Tryd.prog 46 #[.string b, .int .i64 (o : Int), .int .i64 kd] w fun e w' => e = .returned (.tuple #[.agg (vc (elR b o kd).1).toArray, .int .i64 ((elR b o kd).2 : Int)]) ∧ Below w.heap.size w w' := by
  have b0 := Box3.new w 0 0 ⟨#[]⟩ 37
  have B0 : Below w.heap.size w (w.alloc (.cells #[.int .i64 0, .int .i64 0, .string ⟨#[]⟩] 37)) := (Below.refl _ w).alloc (Nat.le_refl _) _
  have HE : Hid (elR b o kd = elR b o kd) := rfl
  generalize hE : elR b o kd = E at HE ⊢
  have HE2 : Hid (elR b o kd = E) := hE
  clear HE hE
  go_enter Tryd.func46, Tryd.ntmps46
  go_upto_region 1 with fail
  generalize w.alloc (.cells #[.int .i64 0, .int .i64 0, .string ⟨#[]⟩] 37) = X at b0 B0 ⊢
  have bx := b0
  obtain ⟨⟨⟨a0, f0⟩, ⟨a1, f1⟩⟩, a2, f2⟩ := b0
  have HB1 : Hid (∀ a b c, Below w.heap.size w (put3 X w.heap.size a b c)) := fun a b c => ((B0.setCell (p := ⟨w.heap.size, 0, none⟩) (Nat.le_refl _) _).setCell (p := ⟨w.heap.size, 1, none⟩) (Nat.le_refl _) _).setCell (p := ⟨w.heap.size, 2, none⟩) (Nat.le_refl _) _
  by_cases k2 : kd = 2
  · subst k2
    have hn := rnumber_any X b o 1 (by omega)
    generalize hnn : numR b o 1 = m at hn
    have HM : Hid (numR b o 1 = m) := hnn
    clear hnn
    go_wp2_with (first | (go_at_call 44; refine hn.mono ?_; rintro e w3 ⟨rfl, rfl⟩) | go_in)
    change bodyPost Tryd.prog _ _ _ _ (put3 _ w.heap.size _ _ _)
    have bp := Box3.put bx 2 (wrap64 m) ⟨#[]⟩
    obtain ⟨⟨⟨p0, -⟩, ⟨p1, -⟩⟩, p2, -⟩ := bp
    exact bodyPost_ret (v := .tuple #[.agg #[.int .i64 2, .int .i64 (wrap64 m), .string ⟨#[]⟩], .int .i64 1]) (by simp [results, Tryd.results46, go_sem, p0, p1, p2]) rfl ⟨by rw [← HE2.out]; rw [← HM.out]; rfl, HB1.out _ _ _⟩
  have k2' : (kd == 2) = false := by simpa using k2
  by_cases k3 : kd = 3
  · subst k3
    clear k2 k2'
    have hn := rnumber_any X b o 2 (by omega)
    obtain ⟨n, hnn, hn6⟩ := numR_two b o
    rw [hnn] at hn
    have HM : Hid (numR b o 2 = (n : Int)) := hnn
    clear hnn
    have w1 : IntKind.i64.wrap (n : Int) = (n : Int) := by rw [IntKind.wrap_i64]; omega
    have w2 : IntKind.i64.wrap ((o : Int) + 2) = (o : Int) + 2 := by rw [IntKind.wrap_i64]; omega
    have w3 : IntKind.i64.wrap ((b.size : Int) - (o : Int)) = (b.size : Int) - (o : Int) := by rw [IntKind.wrap_i64]; omega
    by_cases c1 : b.size < o + 2
    · have g1 : (b.size : Int) < (o : Int) + 2 := by omega
      go_wp2_with (first | (go_at_call 44; refine hn.mono ?_; rintro e w3 ⟨rfl, rfl⟩) | go_in)
      change bodyPost Tryd.prog _ _ _ _ (put3 _ w.heap.size _ _ _)
      have bp := Box3.put bx 3 0 ⟨#[]⟩
      obtain ⟨⟨⟨p0, -⟩, ⟨p1, -⟩⟩, p2, -⟩ := bp
      exact bodyPost_ret (v := .tuple #[.agg #[.int .i64 3, .int .i64 0, .string ⟨#[]⟩], .int .i64 2]) (by simp [results, Tryd.results46, go_sem, p0, p1, p2]) rfl ⟨by rw [← HE2.out]; unfold elR; rw [if_neg (by decide), if_pos rfl, if_pos (.inl c1)]; rfl, HB1.out _ _ _⟩
    have g1 : ¬ (b.size : Int) < (o : Int) + 2 := by omega
    have w4 : IntKind.i64.wrap ((b.size : Int) - (o : Int) - 2) = (b.size : Int) - (o : Int) - 2 := by rw [IntKind.wrap_i64]; omega
    by_cases c2 : b.size < o + 2 + n
    · have g2 : (b.size : Int) - (o : Int) - 2 < (n : Int) := by omega
      go_wp2_with (first | (go_at_call 44; refine hn.mono ?_; rintro e w3 ⟨rfl, rfl⟩) | go_in)
      change bodyPost Tryd.prog _ _ _ _ (put3 _ w.heap.size _ _ _)
      have bp := Box3.put bx 3 0 ⟨#[]⟩
      obtain ⟨⟨⟨p0, -⟩, ⟨p1, -⟩⟩, p2, -⟩ := bp
      exact bodyPost_ret (v := .tuple #[.agg #[.int .i64 3, .int .i64 0, .string ⟨#[]⟩], .int .i64 2]) (by simp [results, Tryd.results46, go_sem, p0, p1, p2]) rfl ⟨by rw [← HE2.out]; unfold elR; rw [if_neg (by decide), if_pos rfl, HM.out, if_pos (.inr (by simpa using c2))]; rfl, HB1.out _ _ _⟩
    have g2 : ¬ (b.size : Int) - (o : Int) - 2 < (n : Int) := by omega
    have w5 : IntKind.i64.wrap ((o : Int) + 2 + (n : Int)) = (o : Int) + 2 + (n : Int) := by rw [IntKind.wrap_i64]; omega
    have w6 : IntKind.i64.wrap (2 + (n : Int)) = 2 + (n : Int) := by rw [IntKind.wrap_i64]; omega
    have h1 : (0 : Int) ≤ (o : Int) + 2 := by omega
    have h2 : (o : Int) + 2 ≤ (o : Int) + 2 + (n : Int) := by omega
    have h3 : (o : Int) + 2 + (n : Int) ≤ (b.size : Int) := by omega
    have t1 : ((o : Int) + 2).toNat = o + 2 := by omega
    have t2 : ((o : Int) + 2 + (n : Int)).toNat = o + 2 + n := by omega
    go_wp2_with (first | (go_at_call 44; refine hn.mono ?_; rintro e w3 ⟨rfl, rfl⟩) | go_in)
    change bodyPost Tryd.prog _ _ _ _ (put3 _ w.heap.size _ _ _)
    have bp := Box3.put bx 3 0 (b.extract (o + 2) (o + 2 + n))
    obtain ⟨⟨⟨p0, -⟩, ⟨p1, -⟩⟩, p2, -⟩ := bp
    exact bodyPost_ret (v := .tuple #[.agg #[.int .i64 3, .int .i64 0, .string (b.extract (o + 2) (o + 2 + n))], .int .i64 (2 + (n : Int))]) (by simp [results, Tryd.results46, go_sem, p0, p1, p2]) rfl ⟨by rw [← HE2.out]; unfold elR; rw [if_neg (by decide), if_pos rfl, HM.out, if_neg (by simp; omega)]; simp [vc], HB1.out _ _ _⟩
  have k3' : (kd == 3) = false := by simpa using k3
  have hn := rnumber_any X b o 8 (by omega)
  generalize hnn : numR b o 8 = m at hn
  have HM : Hid (numR b o 8 = m) := hnn
  clear hnn
  go_wp2_with (first | (go_at_call 44; refine hn.mono ?_; rintro e w3 ⟨rfl, rfl⟩) | go_in)
  change bodyPost Tryd.prog _ _ _ _ (put3 _ w.heap.size _ _ _)
  have bp := Box3.put bx kd (wrap64 m) ⟨#[]⟩
  obtain ⟨⟨⟨p0, -⟩, ⟨p1, -⟩⟩, p2, -⟩ := bp
  exact bodyPost_ret (v := .tuple #[.agg #[.int .i64 kd, .int .i64 (wrap64 m), .string ⟨#[]⟩], .int .i64 8]) (by simp [results, Tryd.results46, go_sem, p0, p1, p2]) rfl ⟨by rw [← HE2.out]; rw [← HM.out]; unfold elR; rw [if_neg k2, if_neg k3]; rfl, HB1.out _ _ _⟩
end Go.Proofs.YtdcioemjmmhbhaaDoor
