import Derived.Test.YtdcioemjmmhbhaaDoorStands
import Derived.Test.YtdcioemjmmhbhaaDoorPuts
namespace Go.Proofs.YtdcioemjmmhbhaaDoor
open Go.RowKit

/-- A script that was handed in. -/
structure StepsAt (w : World) (q : Option Addr) (S : List Sp) : Prop where
  at' : 0 < S.length → ∃ g o, q = some ⟨g, o, none⟩ ∧ w.rangeAt g o (S.flatMap sc)
  txt : ∀ s ∈ S, s.r.2.2.size ≤ 9223372036854775807 ∧ s.x.2.2.size ≤ 9223372036854775807
  len : S.length ≤ 4611686018427387904
theorem StepsAt.next {w w' : World} {q : Option Addr} {S : List Sp} (h : StepsAt w q S) (k : Below w.heap.size w w') : StepsAt w' q S := ⟨fun h0 => by
    obtain ⟨g, o, e, hr⟩ := h.at' h0
    exact ⟨g, o, e, fun j v hv => (k.cell (p := ⟨g, o + j, none⟩) (block_lt_of_cell (hr j v hv))).trans (hr j v hv)⟩, h.txt, h.len⟩
theorem StepsAt.get {w : World} {q : Option Addr} {S : List Sp} (h : StepsAt w q S) (i : Nat) (hi : i < S.length) : ∃ g o, q = some ⟨g, o, none⟩ ∧ w.rangeAt g (o + i * 10) (sc S[i]) := by
  obtain ⟨g, o, e, hr⟩ := h.at' (by omega)
  refine ⟨g, o, e, fun j v hv => ?_⟩
  have hj : j < 10 := (List.getElem?_eq_some_iff.1 hv).1
  have := flat_at sc 10 (fun _ => rfl) S i j hi hj
  rw [Nat.add_assoc]
  exact hr _ v (this.trans hv)

theorem st_start {w1 : World} {B p lim : Nat} (h : HeapOf w1 p lim [] (fun b => b = p)) (hB : B ≤ p) (hp : p < w1.heap.size) :
    St (((w1.alloc (.cells #[.int .i64 0] 30)).alloc (.cells #[.slice none 0 0] 59)).alloc (.cells #[.pointer (some ⟨p, 0, none⟩), .slice (some ⟨w1.heap.size, 0, none⟩) 1 1, .slice (some ⟨w1.heap.size + 1, 0, none⟩) 1 1, .int .i64 0] 34)) B p (w1.heap.size + 2) lim [] := by
  have k1 : Below w1.heap.size w1 (w1.alloc (.cells #[.int .i64 0] 30)) := (Below.refl _ w1).alloc (Nat.le_refl _) _
  have k2 : Below w1.heap.size w1 ((w1.alloc (.cells #[.int .i64 0] 30)).alloc (.cells #[.slice none 0 0] 59)) := k1.alloc (by simp) _
  have k3 : Below w1.heap.size w1 (((w1.alloc (.cells #[.int .i64 0] 30)).alloc (.cells #[.slice none 0 0] 59)).alloc (.cells #[.pointer (some ⟨p, 0, none⟩), .slice (some ⟨w1.heap.size, 0, none⟩) 1 1, .slice (some ⟨w1.heap.size + 1, 0, none⟩) 1 1, .int .i64 0] 34)) := k2.alloc (by simp; omega) _
  have e1 : (((w1.alloc (.cells #[.int .i64 0] 30)).alloc (.cells #[.slice none 0 0] 59)).alloc (.cells #[.pointer (some ⟨p, 0, none⟩), .slice (some ⟨w1.heap.size, 0, none⟩) 1 1, .slice (some ⟨w1.heap.size + 1, 0, none⟩) 1 1, .int .i64 0] 34)).heap[w1.heap.size]? = some (.cells #[.int .i64 0] 30 (0, 0)) := by
    rw [Below.heap_alloc _ _ _ (by simp; omega), Below.heap_alloc _ _ _ (by simp)]
    exact World.alloc_heap_new _ _
  have e2 : (((w1.alloc (.cells #[.int .i64 0] 30)).alloc (.cells #[.slice none 0 0] 59)).alloc (.cells #[.pointer (some ⟨p, 0, none⟩), .slice (some ⟨w1.heap.size, 0, none⟩) 1 1, .slice (some ⟨w1.heap.size + 1, 0, none⟩) 1 1, .int .i64 0] 34)).heap[w1.heap.size + 1]? = some (.cells #[.slice none 0 0] 59 (0, 0)) := by
    rw [Below.heap_alloc _ _ _ (by simp)]
    have := World.alloc_heap_new (w1.alloc (.cells #[.int .i64 0] 30)) (.cells #[.slice none 0 0] 59)
    rwa [World.size_alloc] at this
  have e3 : (((w1.alloc (.cells #[.int .i64 0] 30)).alloc (.cells #[.slice none 0 0] 59)).alloc (.cells #[.pointer (some ⟨p, 0, none⟩), .slice (some ⟨w1.heap.size, 0, none⟩) 1 1, .slice (some ⟨w1.heap.size + 1, 0, none⟩) 1 1, .int .i64 0] 34)).heap[w1.heap.size + 2]? = some (.cells #[.pointer (some ⟨p, 0, none⟩), .slice (some ⟨w1.heap.size, 0, none⟩) 1 1, .slice (some ⟨w1.heap.size + 1, 0, none⟩) 1 1, .int .i64 0] 34 (0, 0)) := by
    have := World.alloc_heap_new ((w1.alloc (.cells #[.int .i64 0] 30)).alloc (.cells #[.slice none 0 0] 59)) (.cells #[.pointer (some ⟨p, 0, none⟩), .slice (some ⟨w1.heap.size, 0, none⟩) 1 1, .slice (some ⟨w1.heap.size + 1, 0, none⟩) 1 1, .int .i64 0] 34)
    rwa [World.size_alloc, World.size_alloc] at this
  have z3 : (((w1.alloc (.cells #[.int .i64 0] 30)).alloc (.cells #[.slice none 0 0] 59)).alloc (.cells #[.pointer (some ⟨p, 0, none⟩), .slice (some ⟨w1.heap.size, 0, none⟩) 1 1, .slice (some ⟨w1.heap.size + 1, 0, none⟩) 1 1, .int .i64 0] 34)).heap.size = w1.heap.size + 3 := by simp
  replace h := h.next k3
  generalize (((w1.alloc (.cells #[.int .i64 0] 30)).alloc (.cells #[.slice none 0 0] 59)).alloc (.cells #[.pointer (some ⟨p, 0, none⟩), .slice (some ⟨w1.heap.size, 0, none⟩) 1 1, .slice (some ⟨w1.heap.size + 1, 0, none⟩) 1 1, .int .i64 0] 34)) = X at *
  refine ⟨_, (fun b => (b = w1.heap.size ∨ b = w1.heap.size + 1) ∨ b = w1.heap.size + 2), .slice (some ⟨w1.heap.size, 0, none⟩) 1 1, .slice (some ⟨w1.heap.size + 1, 0, none⟩) 1 1, [], h, ?_, ?_, ?_, ?_⟩
  · exact {
      blk := ⟨_, e3, by simp⟩
      c0 := by simp only [World.cell?, e3]; rfl
      c1 := by simp only [World.cell?, e3]; rfl
      c2 := by simp only [World.cell?, e3]; rfl
      c3 := by simp only [World.cell?, e3]; rfl
      ks := ⟨rfl, .inr ⟨w1.heap.size, 1, _, rfl, Nat.zero_le _, e1, Nat.le_refl _, by decide, rfl, rfl⟩⟩
      ls := ⟨rfl, .inr ⟨w1.heap.size + 1, 1, _, rfl, Nat.zero_le _, e2, Nat.le_refl _, by decide, rfl, rfl⟩⟩
      len := rfl
      el := fun j v a hv _ => by simp at hv
      dis := List.Pairwise.nil
      gm := .inr rfl
      gk := fun g hg => by cases hg; exact .inl (.inl rfl)
      gl := fun g hg => by cases hg; exact .inl (.inr rfl)
      ge := fun v hv => by cases hv
      glt := fun g hg => by omega }
  · intro b hb
    omega
  · intro b hb
    omega
  · intro b hb
    omega

set_option maxRecDepth 100000 in
set_option maxHeartbeats 4000000 in
theorem cellsMemory_any (w : World) (l0 l1 : Int) (q : Option Addr) (cap : Nat) (S : List Sp) (hS : StepsAt w q S) (hz : Zt w) :
    Calls Tryd.prog 3 #[.agg #[.int .i64 l0, .int .i64 l1, .slice q S.length cap]] w fun e w' => e = .returned (.bool true) ∧ Below w.heap.size w w' := by
  have B0 : Below w.heap.size w (w.alloc (.cells #[.int .i64 l0, .int .i64 l1, .slice q S.length cap] 25)) := (Below.refl _ w).alloc (Nat.le_refl _) _
  have hn := World.alloc_heap_new w (.cells #[.int .i64 l0, .int .i64 l1, .slice q S.length cap] 25)
  have z0 : (w.alloc (.cells #[.int .i64 l0, .int .i64 l1, .slice q S.length cap] 25)).heap.size = w.heap.size + 1 := by simp
  have hzp := hz.pos
  go_enter Tryd.func3, Tryd.ntmps3
  go_wp2_with fail
  generalize w.alloc (.cells #[.int .i64 l0, .int .i64 l1, .slice q S.length cap] 25) = X at B0 hn z0 ⊢
  have z1 : w.heap.size < X.heap.size := by omega
  clear z0
  have x0 : X.cell? ⟨w.heap.size, 0, none⟩ = some (.int .i64 l0) := by simp only [World.cell?, hn]; rfl
  have x2 : X.cell? ⟨w.heap.size, 2, none⟩ = some (.slice q S.length cap) := by simp only [World.cell?, hn]; rfl
  have HX : Hid (∀ W, Below X.heap.size X W → W.cell? ⟨w.heap.size, 2, none⟩ = some (.slice q S.length cap) ∧ StepsAt W q S ∧ Zt W) := fun W hW => by
    have hb := below2 B0 hW
    exact ⟨(hW.cell (p := ⟨w.heap.size, 2, none⟩) (by show w.heap.size < _; omega)).trans x2, hS.next hb, hz.same (hb.block 0 hzp)⟩
  have hlen := hS.len
  clear hS hz hn
  go_wp2_with fail
  refine (new_any l0 X).mono ?_
  rintro e w1 ⟨rfl, h1, b1⟩
  have y0 := (b1.cell (p := ⟨w.heap.size, 0, none⟩) (by show w.heap.size < _; omega)).trans x0
  have hp : X.heap.size < w1.heap.size := h1.flt _ rfl
  clear x0 x2
  go_wp2_with fail
  refine (limit_any l0 w1).mono ?_
  rintro e w2 ⟨rfl, rfl⟩
  have hst := st_start h1 (Nat.le_refl _) hp
  generalize limS l0 = lim at hst h1 ⊢
  clear h1 y0
  go_wp2_with fail
  have bX : Below X.heap.size X (((w2.alloc (.cells #[.int .i64 0] 30)).alloc (.cells #[.slice none 0 0] 59)).alloc (.cells #[.pointer (some ⟨X.heap.size, 0, none⟩), .slice (some ⟨w2.heap.size, 0, none⟩) 1 1, .slice (some ⟨w2.heap.size + 1, 0, none⟩) 1 1, .int .i64 0] 34)) := ((b1.alloc b1.size _).alloc (by have := b1.size; simp; omega) _).alloc (by have := b1.size; simp; omega) _
  generalize ((w2.alloc (.cells #[.int .i64 0] 30)).alloc (.cells #[.slice none 0 0] 59)).alloc (.cells #[.pointer (some ⟨X.heap.size, 0, none⟩), .slice (some ⟨w2.heap.size, 0, none⟩) 1 1, .slice (some ⟨w2.heap.size + 1, 0, none⟩) 1 1, .int .i64 0] 34) = W3 at hst bX ⊢
  generalize w2.heap.size + 2 = m at hst ⊢
  have hX0 : 0 < X.heap.size := by omega
  clear b1 hp
  refine (makes_any hst (HX.out W3 bX).2.2 hX0 bX.size 1 1).mono ?_
  rintro e W4 ⟨rfl, hst4, hb4⟩
  have bX4 : Hid (Below X.heap.size X W4) := bX.trans hb4
  clear hb4 bX hst
  generalize (makeH [] lim 1 1).1 = A0 at hst4
  go_wp2_with fail
  go_loopw [6, 7] (fun o v wr => ∃ (i : Nat) (A : Hp), i ≤ S.length ∧ o = .bool true ∧ v = .int .i64 (i : Int) ∧ Hid (St wr X.heap.size X.heap.size m lim A) ∧ Hid (Below X.heap.size X wr)) (fun _ v _ => S.length - (intOf v).toNat)
  case atStart => exact ⟨0, A0, Nat.zero_le _, rfl, rfl, hst4, bX4⟩
  case round =>
    obtain ⟨i, A, hi, rfl, rfl, hst5, hB5⟩ := hrel
    clear hst4 bX4
    obtain ⟨x2, hS, hz⟩ := HX.out wr hB5.out
    by_cases hlt : i < S.length
    case neg =>
      obtain rfl : i = S.length := by omega
      have hsd := stands_any hst5.out
      clear hS hz
      go_wp2_with (first | (go_at_call 14; refine hsd.mono ?_; rintro e W6 ⟨rfl, hb6⟩) | go_in)
      first | (change bodyPost Tryd.prog Tryd.f3 _ Exit.ret _ _) | (simp only [Exit.noGoto])
      go_ret
      exact ⟨rfl, below2 B0 (hB5.out.trans (hb6.mono hB5.out.size))⟩
    have i1 : (i : Int) < (S.length : Int) := by omega
    have i0 : (0 : Int) ≤ (i : Int) := by omega
    obtain ⟨g, o, rfl, hr⟩ := hS.get i hlt
    obtain ⟨t1, t2⟩ := hS.txt S[i] (List.getElem_mem hlt)
    generalize S[i] = sp at hr t1 t2
    obtain ⟨dop, on, kd, n, ⟨rk, rn, rs⟩, xk, xn, xs⟩ := sp
    simp only at t1 t2
    have s0 : wr.cell? ⟨g, o + i * 10, none⟩ = some (.int .i64 dop) := hr 0 _ rfl
    have s1 : wr.cell? ⟨g, o + i * 10 + 1, none⟩ = some (.int .i64 on) := hr 1 _ rfl
    have s2 : wr.cell? ⟨g, o + i * 10 + 2, none⟩ = some (.int .i64 kd) := hr 2 _ rfl
    have s3 : wr.cell? ⟨g, o + i * 10 + 3, none⟩ = some (.int .i64 n) := hr 3 _ rfl
    have s4 : wr.cell? ⟨g, o + i * 10 + 4, none⟩ = some (.int .i64 rk) := hr 4 _ rfl
    have s5 : wr.cell? ⟨g, o + i * 10 + 5, none⟩ = some (.int .i64 rn) := hr 5 _ rfl
    have s6 : wr.cell? ⟨g, o + i * 10 + 6, none⟩ = some (.string rs) := hr 6 _ rfl
    have s7 : wr.cell? ⟨g, o + i * 10 + 7, none⟩ = some (.int .i64 xk) := hr 7 _ rfl
    have s8 : wr.cell? ⟨g, o + i * 10 + 8, none⟩ = some (.int .i64 xn) := hr 8 _ rfl
    have s9 : wr.cell? ⟨g, o + i * 10 + 9, none⟩ = some (.string xs) := hr 9 _ rfl
    have sn := sc_new wr ⟨dop, on, kd, n, (rk, rn, rs), (xk, xn, xs)⟩ 39
    unfold sc at sn
    simp only at sn
    have nb : Below wr.heap.size wr (wr.alloc (.cells #[.int .i64 dop, .int .i64 on, .int .i64 kd, .int .i64 n, .int .i64 rk, .int .i64 rn, .string rs, .int .i64 xk, .int .i64 xn, .string xs] 39)) := (Below.refl _ wr).alloc (Nat.le_refl _) _
    have st6 := hst5.out.next nb
    have B6 : Below X.heap.size X (wr.alloc (.cells #[.int .i64 dop, .int .i64 on, .int .i64 kd, .int .i64 n, .int .i64 rk, .int .i64 rn, .string rs, .int .i64 xk, .int .i64 xn, .string xs] 39)) := hB5.out.trans (nb.mono hB5.out.size)
    have z6 := hB5.out.size
    clear hr hS hz nb
    go_upto_region 11 with fail
    generalize wr.alloc (.cells #[.int .i64 dop, .int .i64 on, .int .i64 kd, .int .i64 n, .int .i64 rk, .int .i64 rn, .string rs, .int .i64 xk, .int .i64 xn, .string xs] 39) = V at sn st6 B6 ⊢
    have v0 : V.cell? ⟨wr.heap.size, 0, none⟩ = some (.int .i64 dop) := sn 0 _ rfl
    have v1 : V.cell? ⟨wr.heap.size, 1, none⟩ = some (.int .i64 on) := sn 1 _ rfl
    have v2 : V.cell? ⟨wr.heap.size, 2, none⟩ = some (.int .i64 kd) := sn 2 _ rfl
    have v3 : V.cell? ⟨wr.heap.size, 3, none⟩ = some (.int .i64 n) := sn 3 _ rfl
    have v4 : V.cell? ⟨wr.heap.size, 4, none⟩ = some (.int .i64 rk) := sn 4 _ rfl
    have v5 : V.cell? ⟨wr.heap.size, 5, none⟩ = some (.int .i64 rn) := sn 5 _ rfl
    have v6 : V.cell? ⟨wr.heap.size, 6, none⟩ = some (.string rs) := sn 6 _ rfl
    have v7 : V.cell? ⟨wr.heap.size, 7, none⟩ = some (.int .i64 xk) := sn 7 _ rfl
    have v8 : V.cell? ⟨wr.heap.size, 8, none⟩ = some (.int .i64 xn) := sn 8 _ rfl
    have v9 : V.cell? ⟨wr.heap.size, 9, none⟩ = some (.string xs) := sn 9 _ rfl
    clear sn s0 s1 s2 s3 s4 s5 s6 s7 s8 s9 x2 hst5 hB5
    by_cases d1 : dop = 1
    · subst d1
      have hm := makes_any st6 (HX.out V B6).2.2 hX0 B6.size kd n
      generalize (makeH A lim kd n).1 = A1 at hm
      go_wp2_with (first | (go_at_call 10; refine hm.mono ?_; rintro e W7 ⟨rfl, hst7, hb7⟩) | go_in)
      exact ⟨⟨i + 1, A1, by omega, rfl, by go_num, hst7, B6.trans hb7⟩, by simp [intOf]; omega⟩
    have d1' : (dop == 1) = false := by simpa using d1
    clear d1
    by_cases d3 : dop = 3
    · subst d3
      have hm := puts_any st6 B6.size 3 on kd n rk rn rs xk xn xs t1 t2
      generalize (putH A (rk, rn, rs) n (xk, xn, xs)).1 = A1 at hm
      go_wp2_with (first | (go_at_call 11; refine hm.mono ?_; rintro e W7 ⟨rfl, hst7, hb7⟩) | go_in)
      exact ⟨⟨i + 1, A1, by omega, rfl, by go_num, hst7, B6.trans hb7⟩, by simp [intOf]; omega⟩
    have d3' : (dop == 3) = false := by simpa using d3
    clear d3
    by_cases d2 : dop = 2
    · subst d2
      obtain ⟨F, G, kv, lv, Ls, hh, hb, -⟩ := id st6
      have c0 := hb.c0
      have y0 := cell_regrown c0
      have y3 := cell_regrown v3
      have y4 := cell_regrown v4
      have y5 := cell_regrown v5
      have y6 := cell_regrown v6
      have c1 : ∀ d os, Calls Tryd.prog 12 #[.pointer (some ⟨X.heap.size, 0, none⟩), .agg #[.int .i64 rk, .int .i64 rn, .string rs], .int .i64 n] (Sort.grow (redrawn V d) os) fun e w'' => e = .returned (.tuple #[.agg (vc (getH A (rk, rn, rs) n).1).toArray, .int .i64 (getH A (rk, rn, rs) n).2]) ∧ ∃ z : Regrown, w'' = Sort.grow (redrawn V z.d) z.os := fun d os =>
        Calls.regrown_of (get_any (hh.next (below_regrown V d os)) (rk, rn, rs) n t1)
      clear hh hb
      generalize getH A (rk, rn, rs) n = gr at c1
      go_wp2_with fail
      refine wp_region_quiet_below (by kernel_rfl) (by kernel_rfl) ?_
      repeat (first | go_big_quiet_step (first | with_reducible exact c1 _ _) | quiet_step (first | with_reducible exact c1 _ _))
      refine wpQuiet_nil ?_
      intro _ hw'
      obtain ⟨⟨dq, osq⟩, hw''⟩ := hw'
      subst hw''
      have hY := below_regrown V dq osq
      generalize Sort.grow (redrawn V dq) osq = V2 at hY ⊢
      clear c1
      have hst7 : Hid (St V2 X.heap.size X.heap.size m lim A) := st6.next hY
      have hb7 : Hid (Below X.heap.size X V2) := B6.trans (hY.mono B6.size)
      clear hY y0 y3 y4 y5 y6 v0 v1 v2 v3 v4 v5 v6 v7 v8 v9 c0 st6 B6
      go_wp2
      exact ⟨⟨i + 1, A, by omega, rfl, by go_num, hst7, hb7⟩, by simp [intOf]; omega⟩
    have d2' : (dop == 2) = false := by simpa using d2
    clear d2
    by_cases d4 : dop = 4
    · subst d4
      obtain ⟨F, G, kv, lv, Ls, hh, hb, -⟩ := id st6
      have c0 := hb.c0
      have y0 := cell_regrown c0
      have y4 := cell_regrown v4
      have y5 := cell_regrown v5
      have y6 := cell_regrown v6
      have c1 : ∀ d os, Calls Tryd.prog 13 #[.pointer (some ⟨X.heap.size, 0, none⟩), .agg #[.int .i64 rk, .int .i64 rn, .string rs]] (Sort.grow (redrawn V d) os) fun e w'' => e = .returned (.tuple #[.int .i64 ((findH A (rk, rn, rs)).1.2.length : Int), .int .i64 (findH A (rk, rn, rs)).2]) ∧ ∃ z : Regrown, w'' = Sort.grow (redrawn V z.d) z.os := fun d os =>
        Calls.regrown_of (lenH_any (hh.next (below_regrown V d os)) (rk, rn, rs) t1)
      clear hh hb
      generalize (findH A (rk, rn, rs)) = gr at c1
      go_wp2_with fail
      refine wp_region_quiet_below (by kernel_rfl) (by kernel_rfl) ?_
      repeat (first | go_big_quiet_step (first | with_reducible exact c1 _ _) | quiet_step (first | with_reducible exact c1 _ _))
      refine wpQuiet_nil ?_
      intro _ hw'
      obtain ⟨⟨dq, osq⟩, hw''⟩ := hw'
      subst hw''
      have hY := below_regrown V dq osq
      generalize Sort.grow (redrawn V dq) osq = V2 at hY ⊢
      clear c1
      have hst7 : Hid (St V2 X.heap.size X.heap.size m lim A) := st6.next hY
      have hb7 : Hid (Below X.heap.size X V2) := B6.trans (hY.mono B6.size)
      clear hY y0 y4 y5 y6 v0 v1 v2 v3 v4 v5 v6 v7 v8 v9 c0 st6 B6
      go_wp2
      exact ⟨⟨i + 1, A, by omega, rfl, by go_num, hst7, hb7⟩, by simp [intOf]; omega⟩
    have d4' : (dop == 4) = false := by simpa using d4
    clear d4
    have hst7 : Hid (St V X.heap.size X.heap.size m lim A) := st6
    have hb7 : Hid (Below X.heap.size X V) := B6
    clear st6 B6
    go_wp2
    exact ⟨⟨i + 1, A, by omega, rfl, by go_num, hst7, hb7⟩, by simp [intOf]; omega⟩
end Go.Proofs.YtdcioemjmmhbhaaDoor
