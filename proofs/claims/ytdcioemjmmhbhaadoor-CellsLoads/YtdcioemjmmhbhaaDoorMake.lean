import Derived.Test.YtdcioemjmmhbhaaDoorMakeM
namespace Go.Proofs.YtdcioemjmmhbhaaDoor
open Go.RowKit

/-- The table of zeros. -/
def Zt (w : World) : Prop := ∀ k : Nat, k ≤ 4 → w.cell? ⟨0, k * 3, none⟩ = some (.int .i64 (k : Int)) ∧ w.cell? ⟨0, k * 3 + 1, none⟩ = some (.int .i64 0) ∧ w.cell? ⟨0, k * 3 + 2, none⟩ = some (.string e0)
theorem Zt.same {w w' : World} (h : Zt w) (e : w'.heap[0]? = w.heap[0]?) : Zt w' := fun k hk => by
  have c := fun o => World.cell?_of_block (w := w) (w' := w') (a := ⟨0, o, none⟩) e
  exact ⟨(c _).trans (h k hk).1, (c _).trans (h k hk).2.1, (c _).trans (h k hk).2.2⟩
theorem Zt.pos {w : World} (h : Zt w) : 0 < w.heap.size := World.block_lt_of_cell? w _ (h 0 (by decide)).1

/-- What Make answers. -/
def makeH (A : Hp) (lim : Nat) (kind n : Int) : Hp × V × Int :=
  if kind < 1 ∨ 4 < kind then (A, zv, 7) else if n < 0 then (A, zv, 2) else if (lim : Int) - (usedS A : Int) ≤ n then (A, zv, 4) else (A ++ [(kind, List.replicate n.toNat (kind, 0, e0))], (4, (A.length : Int) + 1, e0), 0)

theorem Box3.same {W W' : World} {B : Nat} {k n : Int} {s : ByteArray} (h : Box3 W B k n s) (e : W'.heap[B]? = W.heap[B]?) : Box3 W' B k n s := by
  have c := fun o => World.cell?_of_block (w := W) (w' := W') (a := ⟨B, o, none⟩) e
  have f := fun o => World.frozen?_of_block (w := W) (w' := W') (a := ⟨B, o, none⟩) e
  exact ⟨⟨⟨(c 0).trans h.1.1.1, (f 0).trans h.1.1.2⟩, ⟨(c 1).trans h.1.2.1, (f 1).trans h.1.2.2⟩⟩, (c 2).trans h.2.1, (f 2).trans h.2.2⟩
theorem put3_heap {W : World} {B k : Nat} {a b : Int} {s : ByteArray} (h : k ≠ B) : (put3 W B a b s).heap[k]? = W.heap[k]? := sets_heap (B := B) h [.int .i64 a, .int .i64 b, .string s] 0 W
theorem put3_size (W : World) (B : Nat) (a b : Int) (s : ByteArray) : (put3 W B a b s).heap.size = W.heap.size := sets_size B [.int .i64 a, .int .i64 b, .string s] 0 W
theorem kp_put3 {F : Nat → Prop} {a w : World} (h : Kp F a w) {B : Nat} (hB : F B ∨ a.heap.size ≤ B) (x y : Int) (s : ByteArray) : Kp F a (put3 w B x y s) := Kp.setCells hB [.int .i64 x, .int .i64 y, .string s] 0 h
theorem size37 : (Tryd.prog.info? 37).map (·.size) = some 3 := by kernel_rfl
theorem repl_succ (i : Nat) (z : V) : vcs (List.replicate i z) ++ vc z = vcs (List.replicate (i + 1) z) := by
  rw [List.replicate_succ', vcs_app]
  simp [vcs]

set_option maxRecDepth 100000 in
set_option maxHeartbeats 4000000 in
theorem make_at {w : World} {p lim : Nat} {As : List Ar} {rq : Option Addr} {rn rg ro : Nat} {av : Value} {F : Nat → Prop} {c : Nat} (h : HeapG w p lim As rq rn rg ro av F (usedS (absA As), c)) (hz : Zt w) (hF : ¬ F 0) (kind n : Int) :
    Calls Tryd.prog 20 #[.pointer (some ⟨p, 0, none⟩), .int .i64 kind, .int .i64 n] w fun e w' => e = .returned (.tuple #[.agg (vc (makeH (absA As) lim kind n).2.1).toArray, .int .i64 (makeH (absA As) lim kind n).2.2]) ∧ Hid (∃ F', HeapC w' p lim (makeH (absA As) lim kind n).1 c F' ∧ Kp F w w' ∧ ∀ b, F' b → F b ∨ w.heap.size ≤ b) := by
  have b1 := Box3.new w 0 0 e0 37
  have B0 : Below w.heap.size w (w.alloc (.cells #[.int .i64 0, .int .i64 0, .string e0] 37)) := (Below.refl _ w).alloc (Nat.le_refl _) _
  have z0 : (w.alloc (.cells #[.int .i64 0, .int .i64 0, .string e0] 37)).heap.size = w.heap.size + 1 := by simp
  have HM : Hid (makeH (absA As) lim kind n = if kind < 1 ∨ 4 < kind then (absA As, zv, 7) else if n < 0 then (absA As, zv, 2) else if (lim : Int) - (usedS (absA As) : Int) ≤ n then (absA As, zv, 4) else (absA As ++ [(kind, List.replicate n.toNat (kind, 0, e0))], (4, (As.length : Int) + 1, e0), 0)) := by
    show makeH (absA As) lim kind n = _
    unfold makeH
    rw [abs_len]
  generalize makeH (absA As) lim kind n = R at HM ⊢
  have HW : Hid (HeapG w p lim As rq rn rg ro av F (usedS (absA As), c)) := h
  -- what a refusal leaves
  have HNO : Hid (∀ (Y : World) (t : Int), R = (absA As, zv, t) → Below w.heap.size w Y → Box3 Y w.heap.size 0 0 e0 → Box3 (put3 Y w.heap.size 0 0 e0) w.heap.size 0 0 e0 ∧ (.returned (.tuple #[.agg #[.int .i64 0, .int .i64 0, .string e0], .int .i64 t]) : Ending) = .returned (.tuple #[.agg (vc R.2.1).toArray, .int .i64 R.2.2]) ∧ Hid (∃ F', HeapC (put3 Y w.heap.size 0 0 e0) p lim R.1 c F' ∧ Kp F w (put3 Y w.heap.size 0 0 e0) ∧ ∀ b, F' b → F b ∨ w.heap.size ≤ b)) := fun Y t hR hB hb => by
    refine ⟨hb.put 0 0 e0, by rw [hR]; rfl, F, ?_, kp_put3 (Kp.of hB) (.inr (Nat.le_refl _)) _ _ _, fun b hb => .inl hb⟩
    rw [hR]
    exact ⟨_, _, _, _, _, _, rfl, h.next (below_put3 hB (Nat.le_refl _) _ _ _)⟩
  have HN2 : Hid (∀ (Y : World) (t : Int), R = (absA As, zv, t) → Below w.heap.size w Y → (.returned (.tuple #[.agg #[.int .i64 0, .int .i64 0, .string e0], .int .i64 t]) : Ending) = .returned (.tuple #[.agg (vc R.2.1).toArray, .int .i64 R.2.2]) ∧ Hid (∃ F', HeapC Y p lim R.1 c F' ∧ Kp F w Y ∧ ∀ b, F' b → F b ∨ w.heap.size ≤ b)) := fun Y t hR hB => by
    refine ⟨by rw [hR]; rfl, F, ?_, Kp.of hB, fun b hb => .inl hb⟩
    rw [hR]
    exact ⟨_, _, _, _, _, _, rfl, h.next hB⟩
  by_cases hk : kind < 1 ∨ 4 < kind
  · rw [if_pos hk] at HM
    obtain ⟨n2, n3⟩ := HN2.out _ 7 HM.out B0
    obtain ⟨⟨⟨y0, g0⟩, ⟨y1, g1⟩⟩, y2, g2⟩ := id b1
    clear h hz HM HW HNO HN2
    have HK : Hid (kind < 1 ∨ 4 < kind) := hk
    by_cases hk1 : kind < 1
    · clear hk HK
      go_enter Tryd.func20, Tryd.ntmps20
      go_wp2
      exact bodyPost_ret (v := .tuple #[.agg #[.int .i64 0, .int .i64 0, .string e0], .int .i64 7]) (by simp [results, Tryd.results20, go_sem, y0, y1, y2]) rfl ⟨n2, n3⟩
    · have hk4 : 4 < kind := by rcases HK.out with q | q; exact absurd q hk1; exact q
      clear hk HK
      go_enter Tryd.func20, Tryd.ntmps20
      go_wp2
      exact bodyPost_ret (v := .tuple #[.agg #[.int .i64 0, .int .i64 0, .string e0], .int .i64 7]) (by simp [results, Tryd.results20, go_sem, y0, y1, y2]) rfl ⟨n2, n3⟩
  rw [if_neg hk] at HM
  have hk1 : ¬ kind < 1 := fun q => hk (.inl q)
  have hk4 : ¬ 4 < kind := fun q => hk (.inr q)
  clear hk
  by_cases hn : n < 0
  · rw [if_pos hn] at HM
    obtain ⟨n2, n3⟩ := HN2.out _ 2 HM.out B0
    obtain ⟨⟨⟨y0, g0⟩, ⟨y1, g1⟩⟩, y2, g2⟩ := id b1
    clear h hz HM HW HNO HN2
    go_enter Tryd.func20, Tryd.ntmps20
    go_wp2
    exact bodyPost_ret (v := .tuple #[.agg #[.int .i64 0, .int .i64 0, .string e0], .int .i64 2]) (by simp [results, Tryd.results20, go_sem, y0, y1, y2]) rfl ⟨n2, n3⟩
  rw [if_neg hn] at HM
  obtain ⟨k, rfl⟩ : ∃ k : Nat, kind = (k : Int) := ⟨kind.toNat, by omega⟩
  obtain ⟨m, rfl⟩ : ∃ m : Nat, n = (m : Int) := ⟨n.toNat, by omega⟩
  have hu1 := h.le
  have hu2 := h.top
  have hsub : IntKind.i64.wrap ((lim : Int) - (usedS (absA As) : Int)) = (lim : Int) - (usedS (absA As) : Int) := by rw [IntKind.wrap_i64]; omega
  have hsub2 : wrap64 ((lim : Int) - (usedS (absA As) : Int)) = (lim : Int) - (usedS (absA As) : Int) := by unfold wrap64; omega
  go_enter Tryd.func20, Tryd.ntmps20
  go_wp2_with fail
  generalize w.alloc (.cells #[.int .i64 0, .int .i64 0, .string e0] 37) = X at b1 B0 z0 ⊢
  replace h := h.next B0
  have y0 := cell_regrown h.c0
  have y1 := cell_regrown h.c1
  refine wp_region_quiet_below (by kernel_rfl) (by kernel_rfl) ?_
  repeat (first | go_big_quiet_step (first | fail) | quiet_step (first | fail))
  refine wpQuiet_nil ?_
  intro _ hw'
  obtain ⟨⟨dq, osq⟩, hw''⟩ := hw'
  subst hw''
  have hY := below_regrown X dq osq
  change Exit.then _ _ Exit.normal _ (Sort.grow (redrawn X dq) osq)
  generalize Sort.grow (redrawn X dq) osq = Y at hY ⊢
  clear y0 y1
  replace h := h.next hY
  replace b1 := b1.below hY (by omega)
  replace B0 := below2 B0 hY
  have z1 : w.heap.size + 1 ≤ Y.heap.size := by have := hY.size; omega
  clear hY z0
  by_cases hr : (lim : Int) - (usedS (absA As) : Int) ≤ (m : Int)
  · rw [if_pos hr] at HM
    obtain ⟨n1, n2, n3⟩ := HNO.out _ 4 HM.out B0 b1
    obtain ⟨⟨⟨y0, g0⟩, ⟨y1, g1⟩⟩, y2, g2⟩ := id b1
    clear h hz HM HW HNO hsub hsub2
    obtain ⟨⟨⟨p0, -⟩, ⟨p1, -⟩⟩, p2, -⟩ := n1
    go_wp2
    change bodyPost Tryd.prog _ _ _ _ (put3 _ w.heap.size _ _ _)
    exact bodyPost_ret (v := .tuple #[.agg #[.int .i64 0, .int .i64 0, .string e0], .int .i64 4]) (by simp [results, Tryd.results20, go_sem, p0, p1, p2]) rfl ⟨n2, n3⟩
  rw [if_neg hr, Int.toNat_natCast] at HM
  have hm : usedS (absA As) + (m + 1) ≤ lim := by omega
  have hz1 : Zt Y := hz.same (B0.block 0 hz.pos)
  have hF1 : ∀ b, F b → b < w.heap.size := HW.out.flt
  have htk := take_any h m (by omega)
  have HY : Hid (HeapG Y p lim As rq rn rg ro av F (usedS (absA As), c)) := h
  have hlen := h.len.1
  clear h hsub hsub2 HNO HN2 hn
  go_wp2_with fail
  refine htk.mono ?_
  rintro e w1 ⟨q, rfl, HT⟩
  obtain ⟨g, o, rq', rn', rg', ro', F', T⟩ := HT.out
  have hY1 := T.kp
  have hgF : 0 < m → g ≠ 0 ∧ g ≠ w.heap.size := fun h0 => by
    rcases T.sub g (T.q h0).2.2 with q | q
    · exact ⟨fun e => hF (e ▸ q), by have := hF1 g q; omega⟩
    · omega
  have hgK : 0 < m → F g ∨ Y.heap.size ≤ g := fun h0 => T.sub g (T.q h0).2.2
  have hz2 : ∀ i, i ≤ m → Zt (w1.setCells g o (vcs (List.replicate i ((k : Int), 0, e0)))) := fun i hi => by
    rcases Nat.eq_zero_or_pos m with h0 | h0
    · obtain rfl : i = 0 := by omega
      exact hz1.same (hY1.block 0 hz1.pos hF)
    · exact hz1.same ((sets_heap (Ne.symm (hgF h0).1) _ _ _).trans (hY1.block 0 hz1.pos hF))
  have HZ2 : Hid (∀ i, i ≤ m → Zt (w1.setCells g o (vcs (List.replicate i ((k : Int), 0, e0))))) := hz2
  have HT2 : Hid (0 < m → q = some ⟨g, o, none⟩ ∧ Blk w1 g 37 (o + m * 3)) := fun h0 => ⟨(T.q h0).1, (T.q h0).2.1⟩
  clear htk hz hz1 hz2
  go_wp2_with fail
  go_loopw [40] (fun v wr => ∃ i : Nat, i ≤ m ∧ v = .int .i64 (i : Int) ∧ wr = w1.setCells g o (vcs (List.replicate i ((k : Int), 0, e0)))) (fun v _ => m - (intOf v).toNat)
  case atStart => exact ⟨0, Nat.zero_le _, rfl, rfl⟩
  case round =>
    obtain ⟨i, hi, rfl, hwr⟩ := hrel
    by_cases hlt : i < m
    · obtain ⟨hq, hb⟩ := HT2.out (by omega)
      subst hq
      obtain ⟨c0, c1, c2⟩ := HZ2.out i hi k (by omega)
      rw [← hwr] at c0 c1 c2
      have hth : wr.there g (o + i * 3) 3 := by rw [hwr]; exact (hb.setCells _ _ _).there _ _ (by omega)
      have HTH : Hid (wr.there g (o + i * 3) (#[.int .i64 (k : Int), .int .i64 0, .string e0] : Array Value).size) := hth
      have H1 : Hid ((#[.int .i64 (k : Int), .int .i64 0, .string e0] : Array Value).all (·.oneCell') = true) := one3 _ _ _
      have HNX : Hid (wr.setCells g (o + i * 3) (#[.int .i64 (k : Int), .int .i64 0, .string e0] : Array Value).toList = w1.setCells g o (vcs (List.replicate (i + 1) ((k : Int), 0, e0)))) := by
        show wr.setCells g (o + i * 3) (vc ((k : Int), 0, e0)) = _
        have := sets_app g (vcs (List.replicate i ((k : Int), 0, e0))) (vc ((k : Int), 0, e0)) o w1
        rw [vcs_len, List.length_replicate, repl_succ, ← hwr] at this
        exact this
      have i0 : (0 : Int) ≤ (i : Int) := by omega
      have i1 : (i : Int) < (m : Int) := by omega
      have k0 : (0 : Int) ≤ (k : Int) := by omega
      have k1 : (k : Int) < 5 := by omega
      clear hwr hth hb
      go_wp2_with (first
        | (refine wpList_store_mid (by rfl) 37 (.tmp 48) (.tmp 47) (by rfl) g (o + i * 3) #[.int .i64 (k : Int), .int .i64 0, .string e0] (by rfl) (by rfl) HTH.out size37 H1.out ?_; rw [HNX.out])
        | go_in)
      exact ⟨⟨i + 1, by omega, by go_num, rfl⟩, by simp [intOf]; omega⟩
    · obtain rfl : i = m := by omega
      clear HZ2
      have h2 : HeapG wr p lim As rq' rn' rg' ro' av F' (usedS (absA As), c) := by rw [hwr]; exact T.heap.wrote g o i _ (by rw [vcs_len, List.length_replicate]; exact Nat.le_refl _) (fun h0 => (T.q h0).2.1) (fun a ha hne h0 => T.sep a ha hne h0)
      have kp2 : Kp F Y wr := by
        rcases Nat.eq_zero_or_pos i with h0 | h0
        · subst h0
          rw [hwr]
          exact hY1
        · rw [hwr]
          exact Kp.setCells (hgK h0) _ _ hY1
      have hne : ∀ l : List V, l = List.replicate i ((k : Int), 0, e0) → l ≠ [] → 0 < i := fun l e q => by
        rcases Nat.eq_zero_or_pos i with h0 | h0
        · subst h0
          exact absurd e q
        · exact h0
      have hpc : 0 < i → wr.rangeAt g o (vcs (List.replicate i ((k : Int), 0, e0))) := fun h0 => by
        rw [hwr]
        refine World.rangeAt_setCells_same _ _ _ _ ((T.q h0).2.1.there _ _ ?_)
        rw [vcs_len, List.length_replicate]
        exact Nat.le_refl _
      have hsz1 := kp2.size
      have HC : Hid (∀ v' w3, wr.ownsRow 0 82 2 av As.length (acs As) → Hid (w3.ownsRow 0 82 2 v' (As.length + 1) (acs As ++ (#[.int .i64 (k : Int), .slice q i i] : Array Value).toList)) → Hid ((wr.alloc (.cells #[.int .i64 (k : Int), .slice q i i] 82)).grownBy w3 av.ownBlock ∧ (v'.ownBlock = av.ownBlock ∨ v'.ownBlock = some (wr.heap.size + 1))) →
          (w3.cell? ⟨p, 3, none⟩ = some av ∧ w3.frozen? ⟨p, 3, none⟩ = false ∧ w3.cell? ⟨p, 1, none⟩ = some (.int .i64 (usedS (absA As) : Int)) ∧ w3.frozen? ⟨p, 1, none⟩ = false) ∧
          HeapG ((w3.setCell ⟨p, 3, none⟩ v').setCell ⟨p, 1, none⟩ (.int .i64 ((usedS (absA As) : Int) + ((i : Int) + 1)))) p lim (As ++ [⟨(k : Int), List.replicate i ((k : Int), 0, e0), q, g, o⟩]) rq' rn' rg' ro' v' (fun b => F' b ∨ v'.ownBlock = some b) (usedS (absA (As ++ [⟨(k : Int), List.replicate i ((k : Int), 0, e0), q, g, o⟩])), c) ∧
          Box3 ((w3.setCell ⟨p, 3, none⟩ v').setCell ⟨p, 1, none⟩ (.int .i64 ((usedS (absA As) : Int) + ((i : Int) + 1)))) w.heap.size 0 0 e0 ∧ Kp F Y ((w3.setCell ⟨p, 3, none⟩ v').setCell ⟨p, 1, none⟩ (.int .i64 ((usedS (absA As) : Int) + ((i : Int) + 1)))) ∧
          ∀ b, (F' b ∨ v'.ownBlock = some b) → F b ∨ Y.heap.size ≤ b) := fun v' w3 _ ho3 hg3 => by
        have hfa := HY.out.fa
        have kp3 : Kp F Y w3 := (kp2.alloc (.cells #[.int .i64 (k : Int), .slice q i i] 82)).grown hg3.out.1 (fun b hb => .inl (hfa b hb))
        have hpp : w3.heap[p]? = wr.heap[p]? := (hg3.out.1.block p (by have := h2.blk.lt; simp; omega) (fun e => own_ne h2.arrs h2.blk (by decide) e.symm)).trans (Below.heap_alloc _ _ _ h2.blk.lt)
        have hc := fun o' => World.cell?_of_block (w := wr) (w' := w3) (a := ⟨p, o', none⟩) hpp
        have hb3 := h2.blk.same hpp
        have kp4 : Kp F Y ((w3.setCell ⟨p, 3, none⟩ v').setCell ⟨p, 1, none⟩ (.int .i64 ((usedS (absA As) : Int) + ((i : Int) + 1)))) := (kp3.setCell (p := ⟨p, 3, none⟩) (.inl HY.out.fp) _).setCell (p := ⟨p, 1, none⟩) (.inl HY.out.fp) _
        refine ⟨⟨(hc 3).trans h2.c3, hb3.unfrozen 3, (hc 1).trans h2.c1, hb3.unfrozen 1⟩, ?_, ?_, kp4, ?_⟩
        · have hmd := h2.made (w3 := w3) (v' := v') ⟨(k : Int), List.replicate i ((k : Int), 0, e0), q, g, o⟩ (.cells #[.int .i64 (k : Int), .slice q i i] 82)
            (fun h0 => by
              have hi0 := hne _ rfl h0
              obtain ⟨t1, t2, t3⟩ := T.q hi0
              refine ⟨t1, ?_, hpc hi0, t3⟩
              rw [List.length_replicate, hwr]
              exact t2.setCells _ _ _)
            (fun a ha hn h0 => T.sep a ha hn (hne _ rfl h0)) (fun h0 hr0 => by rw [List.length_replicate]; exact T.sepr (hne _ rfl h0) hr0)
            ⟨by show (1 : Int) ≤ (k : Int); omega, by show (k : Int) ≤ 4; omega⟩ (fun v hv => by obtain rfl := List.eq_of_mem_replicate hv; exact may_zero ⟨by omega, by omega⟩ _)
            (by simp only [List.length_replicate]; exact hm) (by simpa [ac] using ho3.out) hg3.out.1
          simp only [List.length_replicate] at hmd
          rwa [show ((usedS (absA As) + (i + 1) : Nat) : Int) = (usedS (absA As) : Int) + ((i : Int) + 1) by omega] at hmd
        · exact b1.same (kp4.block _ (by omega) (fun q => by have := hF1 _ q; omega))
        · rintro b (q | q)
          · exact T.sub b q
          · rcases hg3.out.2 with r | r
            · exact .inl (hfa b (r ▸ q))
            · rw [r] at q
              cases q
              exact .inr (by omega)
      have c3 := h2.c3
      have HA : Hid (wr.ownsRow 0 82 2 av As.length (acs As)) := h2.arrs
      have HO : Hid (∀ u ∈ (#[.int .i64 (k : Int), .slice q i i] : Array Value).toList, u.oneCell' = true) := fun u hu => by
        simp only [List.mem_cons, List.not_mem_nil, or_false] at hu
        rcases hu with rfl | rfl <;> rfl
      have HFIN : Hid (∀ w4 F4 v4, HeapG w4 p lim (As ++ [⟨(k : Int), List.replicate i ((k : Int), 0, e0), q, g, o⟩]) rq' rn' rg' ro' v4 F4 (usedS (absA (As ++ [⟨(k : Int), List.replicate i ((k : Int), 0, e0), q, g, o⟩])), c) → Box3 w4 w.heap.size 0 0 e0 → Kp F Y w4 → (∀ b, F4 b → F b ∨ Y.heap.size ≤ b) → Box3 (put3 w4 w.heap.size 4 ((As.length : Int) + 1) e0) w.heap.size 4 ((As.length : Int) + 1) e0 ∧ (.returned (.tuple #[.agg #[.int .i64 4, .int .i64 ((As.length : Int) + 1), .string e0], .int .i64 0]) : Ending) = .returned (.tuple #[.agg (vc R.2.1).toArray, .int .i64 R.2.2]) ∧ Hid (∃ F', HeapC (put3 w4 w.heap.size 4 ((As.length : Int) + 1) e0) p lim R.1 c F' ∧ Kp F w (put3 w4 w.heap.size 4 ((As.length : Int) + 1) e0) ∧ ∀ b, F' b → F b ∨ w.heap.size ≤ b)) := fun w4 F4 v4 hh hb hk4 hs4 => by
        refine ⟨hb.put _ _ _, by rw [HM.out]; rfl, F4, ?_, kp_put3 ((Kp.of B0).trans hk4 (fun _ _ q => q)) (.inr (Nat.le_refl _)) _ _ _, fun b hb => ?_⟩
        · rw [HM.out]
          refine ⟨_, _, _, _, _, _, ?_, hh.same (fun b hb => put3_heap ?_) (by rw [put3_size]; exact Nat.le_refl _)⟩
          · rw [abs_app]
            rfl
          · rcases hs4 b hb with q | q
            · have := hF1 b q
              omega
            · omega
        · rcases hs4 b hb with q | q
          · exact .inl q
          · exact .inr (by omega)
      have hu3 : (usedS (absA As) : Int) ≤ 100000 := by omega
      have hi3 : (i : Int) ≤ 100000 := by omega
      clear h2 kp2 hpc hne hwr hlt hY1 hgF hgK T HT HY HW b1 HT2
      go_wp2_with (first
        | (at_builtin; refine wpList_app 76 82 _ 2 32 Tryd.underlying76 info82 (by rfl) (by decide) (by decide) (by rfl) _ _ (by rfl) 0 av As.length (acs As) (by rfl) HA.out _ (by rfl) HO.out (by rfl) (by omega) (Nat.zero_le _) ?_; intro v' w3 ho3 hg3; obtain ⟨q4, c4, rfl, -, -⟩ := own_slice ho3.out; obtain ⟨⟨d3, f3, d1, f1⟩, h4, b4, kp4, s4⟩ := HC.out _ w3 HA.out ho3 hg3)
        | (go_at_call 36; refine (count_any h4).mono ?_; rintro e w5 ⟨rfl, rfl⟩; rw [List.length_append, List.length_singleton, Int.natCast_add, Int.natCast_one]; obtain ⟨⟨⟨y0, g0⟩, ⟨y1, g1⟩⟩, y2, g2⟩ := id b4)
        | go_in)
      change bodyPost Tryd.prog _ _ _ _ (put3 _ w.heap.size 4 ((As.length : Int) + 1) e0)
      obtain ⟨n1, n2, n3⟩ := HFIN.out _ _ _ h4 b4 kp4 s4
      obtain ⟨⟨⟨p0, -⟩, ⟨p1, -⟩⟩, p2, -⟩ := n1
      exact bodyPost_ret (v := .tuple #[.agg #[.int .i64 4, .int .i64 ((As.length : Int) + 1), .string e0], .int .i64 0]) (by simp [results, Tryd.results20, go_sem, p0, p1, p2]) rfl ⟨n2, n3⟩

theorem makeC_any {w : World} {p lim : Nat} {A : Hp} {c : Nat} {F : Nat → Prop} (h : HeapC w p lim A c F) (hz : Zt w) (hF : ¬ F 0) (kind n : Int) :
    Calls Tryd.prog 20 #[.pointer (some ⟨p, 0, none⟩), .int .i64 kind, .int .i64 n] w fun e w' => e = .returned (.tuple #[.agg (vc (makeH A lim kind n).2.1).toArray, .int .i64 (makeH A lim kind n).2.2]) ∧ Hid (∃ F', HeapC w' p lim (makeH A lim kind n).1 c F' ∧ Kp F w w' ∧ ∀ b, F' b → F b ∨ w.heap.size ≤ b) := by
  obtain ⟨As, rq, rn, rg, ro, av, rfl, h⟩ := h
  exact make_at h hz hF kind n
theorem make_ok {A : Hp} {lim : Nat} {kind n : Int} (h : ∀ a ∈ A, ∀ v ∈ a.2, mayS v a.1 A.length = true) : ∀ a ∈ (makeH A lim kind n).1, ∀ v ∈ a.2, mayS v a.1 (makeH A lim kind n).1.length = true := by
  unfold makeH
  split
  · exact h
  rename_i hk
  split
  · exact h
  split
  · exact h
  · intro a ha v hv
    rw [List.length_append]
    rcases List.mem_append.1 ha with q | q
    · exact may_mono (h a q v hv) (by omega)
    · obtain rfl := List.mem_singleton.1 q
      obtain rfl := List.eq_of_mem_replicate hv
      exact may_zero ⟨by omega, by omega⟩ _
theorem HeapOf.ok {w : World} {p lim : Nat} {A : Hp} {F : Nat → Prop} (h : HeapOf w p lim A F) : ∀ a ∈ A, ∀ v ∈ a.2, mayS v a.1 A.length = true := by
  obtain ⟨As, rq, rn, rg, ro, av, rfl, h⟩ := h
  intro a ha v hv
  unfold absA at ha
  obtain ⟨b, hb, rfl⟩ := List.mem_map.1 ha
  rw [abs_len]
  exact (h.ok b hb).2 v hv
theorem make_any {w : World} {p lim : Nat} {A : Hp} {F : Nat → Prop} (h : HeapOf w p lim A F) (hz : Zt w) (hF : ¬ F 0) (kind n : Int) :
    Calls Tryd.prog 20 #[.pointer (some ⟨p, 0, none⟩), .int .i64 kind, .int .i64 n] w fun e w' => e = .returned (.tuple #[.agg (vc (makeH A lim kind n).2.1).toArray, .int .i64 (makeH A lim kind n).2.2]) ∧ Hid (∃ F', HeapOf w' p lim (makeH A lim kind n).1 F' ∧ Kp F w w' ∧ ∀ b, F' b → F b ∨ w.heap.size ≤ b) := by
  refine (makeC_any h.toC hz hF kind n).mono fun e w' ⟨h1, F', h2, h3⟩ => ⟨h1, F', h2.toOf (make_ok h.ok), h3⟩
end Go.Proofs.YtdcioemjmmhbhaaDoor
