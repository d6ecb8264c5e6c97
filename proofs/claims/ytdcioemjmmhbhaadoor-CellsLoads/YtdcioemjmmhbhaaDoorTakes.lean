import Derived.Test.YtdcioemjmmhbhaaDoorScript
import Derived.WalkMore
namespace Go.Proofs.YtdcioemjmmhbhaaDoor
open Go.RowKit

/-- What takes does. -/
def takeS (A : Hp) (lim : Nat) (s : Sp) : Hp × Int := if s.dop = 1 then ((makeH A lim s.kd s.n).1, (makeH A lim s.kd s.n).2.2) else if s.dop = 3 then putH A s.r s.n s.x else (A, (getH A s.r s.n).2)

set_option maxRecDepth 100000 in
set_option maxHeartbeats 2000000 in
theorem takes_any {w : World} {p lim : Nat} {A : Hp} {F : Nat → Prop} (h : HeapOf w p lim A F) (hz : Zt w) (hF : ¬ F 0) (dop on kd n : Int) (rk rn : Int) (rs : ByteArray) (xk xn : Int) (xs : ByteArray) (hrs : rs.size ≤ 9223372036854775807) (hxs : xs.size ≤ 9223372036854775807) :
    Calls Tryd.prog 15 #[.pointer (some ⟨p, 0, none⟩), .agg #[.int .i64 dop, .int .i64 on, .int .i64 kd, .int .i64 n, .int .i64 rk, .int .i64 rn, .string rs, .int .i64 xk, .int .i64 xn, .string xs]] w fun e w' => e = .returned (.int .i64 (takeS A lim ⟨dop, on, kd, n, (rk, rn, rs), (xk, xn, xs)⟩).2) ∧ Hid (∃ F', HeapOf w' p lim (takeS A lim ⟨dop, on, kd, n, (rk, rn, rs), (xk, xn, xs)⟩).1 F' ∧ Kp F w w' ∧ ∀ b, F' b → F b ∨ w.heap.size ≤ b) := by
  have B0 : Below w.heap.size w (w.alloc (.cells #[.int .i64 dop, .int .i64 on, .int .i64 kd, .int .i64 n, .int .i64 rk, .int .i64 rn, .string rs, .int .i64 xk, .int .i64 xn, .string xs] 39)) := (Below.refl _ w).alloc (Nat.le_refl _) _
  have sn := sc_new w ⟨dop, on, kd, n, (rk, rn, rs), (xk, xn, xs)⟩ 39
  unfold sc at sn
  simp only at sn
  have HT : Hid (takeS A lim ⟨dop, on, kd, n, (rk, rn, rs), (xk, xn, xs)⟩ = if dop = 1 then ((makeH A lim kd n).1, (makeH A lim kd n).2.2) else if dop = 3 then putH A (rk, rn, rs) n (xk, xn, xs) else (A, (getH A (rk, rn, rs) n).2)) := rfl
  generalize takeS A lim ⟨dop, on, kd, n, (rk, rn, rs), (xk, xn, xs)⟩ = R at HT ⊢
  go_enter Tryd.func15, Tryd.ntmps15
  go_upto_region 1 with fail
  generalize w.alloc (.cells #[.int .i64 dop, .int .i64 on, .int .i64 kd, .int .i64 n, .int .i64 rk, .int .i64 rn, .string rs, .int .i64 xk, .int .i64 xn, .string xs] 39) = X at B0 sn ⊢
  have hh := h.next B0
  have hzX : Zt X := hz.same (B0.block 0 hz.pos)
  have v0 : X.cell? ⟨w.heap.size, 0, none⟩ = some (.int .i64 dop) := sn 0 _ rfl
  have v2 : X.cell? ⟨w.heap.size, 2, none⟩ = some (.int .i64 kd) := sn 2 _ rfl
  have v3 : X.cell? ⟨w.heap.size, 3, none⟩ = some (.int .i64 n) := sn 3 _ rfl
  have v4 : X.cell? ⟨w.heap.size, 4, none⟩ = some (.int .i64 rk) := sn 4 _ rfl
  have v5 : X.cell? ⟨w.heap.size, 5, none⟩ = some (.int .i64 rn) := sn 5 _ rfl
  have v6 : X.cell? ⟨w.heap.size, 6, none⟩ = some (.string rs) := sn 6 _ rfl
  have v7 : X.cell? ⟨w.heap.size, 7, none⟩ = some (.int .i64 xk) := sn 7 _ rfl
  have v8 : X.cell? ⟨w.heap.size, 8, none⟩ = some (.int .i64 xn) := sn 8 _ rfl
  have v9 : X.cell? ⟨w.heap.size, 9, none⟩ = some (.string xs) := sn 9 _ rfl
  have hFX : ∀ {A' : Hp} {F' : Nat → Prop} {W : World}, HeapOf W p lim A' F' → Kp F X W → (∀ b, F' b → F b ∨ X.heap.size ≤ b) → ∃ F', HeapOf W p lim A' F' ∧ Kp F w W ∧ ∀ b, F' b → F b ∨ w.heap.size ≤ b := fun {A' F' W} q1 q2 q3 => ⟨F', q1, (Kp.of B0).trans q2 (fun _ _ q => q), fun b hb => by
    rcases q3 b hb with r | r
    · exact .inl r
    · have := B0.size
      exact .inr (by omega)⟩
  have HFX : Hid (∀ {A' : Hp} {F' : Nat → Prop} {W : World}, HeapOf W p lim A' F' → Kp F X W → (∀ b, F' b → F b ∨ X.heap.size ≤ b) → ∃ F', HeapOf W p lim A' F' ∧ Kp F w W ∧ ∀ b, F' b → F b ∨ w.heap.size ≤ b) := hFX
  clear sn hFX h hz
  by_cases d1 : dop = 1
  · rw [if_pos d1] at HT
    subst d1
    have hm := make_any hh hzX hF kd n
    generalize makeH A lim kd n = M at hm HT
    obtain ⟨M1, ⟨mk, mn, ms⟩, mt⟩ := M
    simp only at HT hm
    rw [show (vc (mk, mn, ms)).toArray = #[.int .i64 mk, .int .i64 mn, .string ms] from rfl] at hm
    go_wp2_with (first | (go_at_call 20; refine hm.mono ?_; rintro e w3 ⟨rfl, hq⟩) | go_in)
    go_ret
    obtain ⟨F', q1, q2, q3⟩ := hq.out
    refine ⟨by rw [HT.out]; rfl, ?_⟩
    rw [HT.out]
    have nb : Below w3.heap.size w3 (w3.alloc (.cells #[.int .i64 mk, .int .i64 mn, .string ms] 37)) := (Below.refl _ w3).alloc (Nat.le_refl _) _
    exact HFX.out (q1.next nb) (q2.next nb) q3
  have d1' : (dop == 1) = false := by simpa using d1
  rw [if_neg d1] at HT
  by_cases d3 : dop = 3
  · rw [if_pos d3] at HT
    subst d3
    have hm := put_any hh (rk, rn, rs) n (xk, xn, xs) hrs hxs
    simp only at hm
    rw [← HT.out] at hm
    clear d1 d1'
    go_wp2_with (first | (go_at_call 31; refine hm.mono ?_; rintro e w3 ⟨rfl, q1, q2⟩) | go_in)
    go_ret
    exact ⟨rfl, HFX.out q1 q2 (fun b hb => .inl hb)⟩
  have d3' : (dop == 3) = false := by simpa using d3
  rw [if_neg d3] at HT
  have hm := get_any hh (rk, rn, rs) n hrs
  simp only at hm
  generalize getH A (rk, rn, rs) n = M at hm HT
  obtain ⟨⟨mk, mn, ms⟩, mt⟩ := M
  simp only at HT hm
  rw [show (vc (mk, mn, ms)).toArray = #[.int .i64 mk, .int .i64 mn, .string ms] from rfl] at hm
  clear d1 d3
  go_wp2_with (first | (go_at_call 12; refine hm.mono ?_; rintro e w3 ⟨rfl, hb3⟩) | go_in)
  go_ret
  refine ⟨by rw [HT.out]; rfl, ?_⟩
  rw [HT.out]
  have nb : Below X.heap.size X (w3.alloc (.cells #[.int .i64 mk, .int .i64 mn, .string ms] 37)) := hb3.alloc hb3.size _
  exact HFX.out (hh.next nb) (Kp.of nb) (fun b hb => .inl hb)
end Go.Proofs.YtdcioemjmmhbhaaDoor
