import Derived.Test.YtdcioemjmmhbhaaDoorMakesF
namespace Go.Proofs.YtdcioemjmmhbhaaDoor
open Go.RowKit

theorem neqV (k n : Int) (s : ByteArray) (k' n' : Int) (s' : ByteArray) : ∀ w : World,
    (binOp BinOp.neq 37 (.agg #[.int .i64 k, .int .i64 n, .string s]) (.agg #[.int .i64 k', .int .i64 n', .string s'])).run Tryd.prog w = .ok (.bool (!((k == k' && n == n') && s.toList == s'.toList))) w := by
  intro w
  cases h1 : (k == k') with
  | false => simp [go_sem, h1]
  | true =>
    cases h2 : (n == n') with
    | false => simp [go_sem, h1, h2]
    | true =>
      cases h3 : (s.toList == s'.toList) with
      | false => simp [go_sem, h1, h2, h3]
      | true => simp [go_sem, h1, h2, h3]

theorem one_slice (q : Option Addr) (n c : Nat) : ∀ u ∈ ([.slice q n c] : List Value), u.oneCell' = true := fun u hu => by
  obtain rfl := List.mem_singleton.1 hu
  rfl
theorem callz (a b : Value) (w : World) : (callFunc 30 #[a, b]).run Tryd.prog w = .ok (.enter 30 #[a, b]) w := by kernel_rfl

set_option maxRecDepth 100000 in
set_option maxHeartbeats 4000000 in
theorem makes_any {w : World} {B p m lim : Nat} {A : Hp} (h : St w B p m lim A) (hz : Zt w) (hB : 0 < B) (hBw : B ≤ w.heap.size) (kind n : Int) :
    Calls Tryd.prog 10 #[.pointer (some ⟨m, 0, none⟩), .int .i64 (lim : Int), .int .i64 kind, .int .i64 n] w fun e w' => e = .returned (.bool true) ∧ Hid (St w' B p m lim (makeH A lim kind n).1) ∧ Below B w w' := by
  obtain ⟨F, G, kv, lv, Ls, hh, hb, hd, hFB, hGB⟩ := h
  have hF0 : ¬ F 0 := fun q => by have := hFB 0 q; omega
  have hmk := make_any hh hz hF0 kind n
  have c0 := hb.c0
  have hlim : lim ≤ 100000 ∧ usedS A ≤ lim := by obtain ⟨_, _, _, _, _, _, rfl, q⟩ := hh; exact ⟨q.top, q.le⟩
  have hAl : A.length ≤ 100000 := by have := used_ge A; omega
  have HK : Hid (makeH A lim kind n = if kind < 1 ∨ 4 < kind then (A, zv, 7) else if n < 0 then (A, zv, 2) else if (lim : Int) - (usedS A : Int) ≤ n then (A, zv, 4) else (A ++ [(kind, List.replicate n.toNat (kind, 0, e0))], (4, (A.length : Int) + 1, e0), 0)) := rfl
  generalize makeH A lim kind n = R at hmk HK ⊢
  -- behind Make the book is as it was
  have HAF : Hid (∀ w1, Hid (∃ F', HeapOf w1 p lim R.1 F' ∧ Kp F w w1 ∧ ∀ b, F' b → F b ∨ w.heap.size ≤ b) → ∃ F', HeapOf w1 p lim R.1 F' ∧ BookAt w1 m p A (A.map (·.1)) (usedS A) kv lv Ls G ∧ (∀ b, F' b → ¬ G b) ∧ (∀ b, F' b → B ≤ b) ∧ Below B w w1) := fun w1 q => by
    obtain ⟨F', q1, q2, q3⟩ := q.out
    refine ⟨F', q1, hb.kept q2 hd, fun b hb' hg => ?_, fun b hb' => ?_, q2.below hFB hBw⟩
    · rcases q3 b hb' with r | r
      · exact hd b r hg
      · have := hb.glt b hg
        omega
    · rcases q3 b hb' with r | r
      · exact hFB b r
      · omega
  have hbB := hb.glt
  clear hh hb hz hF0
  have hsub : IntKind.i64.wrap ((lim : Int) - (usedS A : Int)) = (lim : Int) - (usedS A : Int) := by rw [IntKind.wrap_i64]; omega
  have hsub2 : wrap64 ((lim : Int) - (usedS A : Int)) = (lim : Int) - (usedS A : Int) := by unfold wrap64; omega
  go_enter Tryd.func10, Tryd.ntmps10
  go_wp2_with fail
  refine hmk.mono ?_
  rintro e w1 ⟨rfl, hq⟩
  obtain ⟨F', h1, h2, h3, h4, h5⟩ := HAF.out w1 hq
  clear hmk HAF hq c0
  obtain ⟨R1, ⟨rk, rn, rs⟩, rt⟩ := R
  simp only at h1 HK ⊢
  rw [show (vc (rk, rn, rs)).toArray = #[.int .i64 rk, .int .i64 rn, .string rs] from rfl]
  have b1 := Box3.new w1 rk rn rs 37
  have B1 : Below w1.heap.size w1 (w1.alloc (.cells #[.int .i64 rk, .int .i64 rn, .string rs] 37)) := (Below.refl _ w1).alloc (Nat.le_refl _) _
  replace h1 := h1.next B1
  replace h2 := h2.next B1
  have B2 : Below B w (w1.alloc (.cells #[.int .i64 rk, .int .i64 rn, .string rs] 37)) := h5.trans (B1.mono (by have := h5.size; omega))
  obtain ⟨⟨⟨x0, f0⟩, ⟨x1, f1⟩⟩, x2, f2⟩ := b1
  clear B1 h5
  have ST : Hid (R1 = A → St (w1.alloc (.cells #[.int .i64 rk, .int .i64 rn, .string rs] 37)) B p m lim R1) := fun e => ⟨F', G, kv, lv, Ls, h1, by rw [e]; exact h2, h3, h4, hGB⟩
  have eqz := eqlV 0 0 e0 0 0 e0
  rw [e0_list] at eqz
  by_cases hk : kind < 1 ∨ 4 < kind
  · rw [if_pos hk] at HK
    have HR := HK.out
    cases HR
    have hst := ST.out rfl
    clear h1 h2 ST HK
    by_cases hk1 : kind < 1
    · clear hk
      go_wp2
      go_ret
      exact ⟨by rfl, hst, B2⟩
    · have hk4 : 4 < kind := by rcases hk with q | q; exact absurd q hk1; exact q
      clear hk
      go_wp2
      go_ret
      exact ⟨by rfl, hst, B2⟩
  rw [if_neg hk] at HK
  have hk1 : ¬ kind < 1 := fun q => hk (.inl q)
  have hk4 : ¬ 4 < kind := fun q => hk (.inr q)
  clear hk
  by_cases hn : n < 0
  · rw [if_pos hn] at HK
    have HR := HK.out
    cases HR
    have hst := ST.out rfl
    clear h1 h2 ST HK
    go_wp2
    go_ret
    exact ⟨by rfl, hst, B2⟩
  rw [if_neg hn] at HK
  have c3 := h2.c3
  by_cases hr : (lim : Int) - (usedS A : Int) ≤ n
  · rw [if_pos hr] at HK
    have HR := HK.out
    cases HR
    have hst := ST.out rfl
    clear h1 h2 ST HK
    go_wp2
    go_ret
    exact ⟨by rfl, hst, B2⟩
  rw [if_neg hr] at HK
  have HR := HK.out
  cases HR
  clear HK ST
  have c2 := h2.c2
  obtain ⟨lq, lc, rfl, -, -⟩ := own_slice h2.ls
  have nq := neqV 4 ((A.length : Int) + 1) e0 4 ((A.length : Int) + 1) e0
  have nq2 : (!((4 : Int) == 4 && ((A.length : Int) + 1 == (A.length : Int) + 1) && e0.toList == e0.toList)) = false := by simp
  rw [nq2] at nq
  go_wp2_with fail
  generalize w1.alloc (.cells #[.int .i64 4, .int .i64 ((A.length : Int) + 1), .string e0] 37) = X at x0 x1 x2 f0 f1 f2 h1 h2 c2 c3 B2 ⊢
  have y0 := cell_regrown x0
  have y1 := cell_regrown x1
  have y2 := cell_regrown x2
  have y3 := cell_regrown c2
  refine wp_region_quiet_below (by kernel_rfl) (by kernel_rfl) ?_
  repeat (first | go_big_quiet_step (first | fail) | quiet_step (first | fail))
  refine wpQuiet_nil ?_
  intro _ hw'
  obtain ⟨⟨dq, osq⟩, hw''⟩ := hw'
  subst hw''
  have hY := below_regrown X dq osq
  change Exit.then _ _ Exit.normal _ (Sort.grow (redrawn X dq) osq)
  generalize Sort.grow (redrawn X dq) osq = Y at hY ⊢
  clear y0 y1 y2 y3 x0 x1 x2 f0 f1 f2 c2 c3 nq nq2 eqz
  replace h1 := h1.next hY
  replace h2 := h2.next hY
  replace B2 := B2.trans (hY.mono (by have := B2.size; omega))
  clear hY
  obtain ⟨n, rfl⟩ : ∃ k : Nat, n = (k : Int) := ⟨n.toNat, by omega⟩
  rw [Int.toNat_natCast] at *
  have HO1 : Hid (∀ u ∈ (#[.int .i64 kind] : Array Value).toList, u.oneCell' = true) := fun u hu => by
    simp only [List.mem_cons, List.not_mem_nil, or_false] at hu
    subst hu
    rfl
  have HKS : Hid (Y.ownsRow 0 30 1 kv ((A.map (·.1)).length + 1) (.int .i64 0 :: (A.map (·.1)).map fun k => .int .i64 k)) := h2.ks
  have hKl : (A.map (·.1)).length = A.length := by simp
  have HBK : Hid (∀ kv' w3, Hid (w3.ownsRow 0 30 1 kv' ((A.map (·.1)).length + 1 + 1) ((.int .i64 0 :: (A.map (·.1)).map fun k => .int .i64 k) ++ (#[.int .i64 kind] : Array Value).toList)) → Hid ((Y.alloc (.cells #[.int .i64 kind] 30)).grownBy w3 kv.ownBlock ∧ (kv'.ownBlock = kv.ownBlock ∨ kv'.ownBlock = some (Y.heap.size + 1))) →
      (w3.cell? ⟨m, 1, none⟩ = some kv ∧ w3.frozen? ⟨m, 1, none⟩ = false) ∧ Hid (BookAt (w3.setCell ⟨m, 1, none⟩ kv') m p A (A.map (·.1) ++ [kind]) (usedS A) kv' (.slice lq (A.length + 1) lc) Ls (fun b => G b ∨ kv'.ownBlock = some b) ∧ Kp G Y (w3.setCell ⟨m, 1, none⟩ kv') ∧ ∀ b, (G b ∨ kv'.ownBlock = some b) → G b ∨ Y.heap.size ≤ b)) := fun kv' w3 ho3 hg3 => by
    have hpp : w3.heap[m]? = Y.heap[m]? := (hg3.out.1.block m (by have := h2.blk.lt; simp; omega) (fun e => own_ne h2.ks h2.blk (by decide) e.symm)).trans (Below.heap_alloc _ _ _ h2.blk.lt)
    refine ⟨⟨(World.cell?_of_block (w := Y) (w' := w3) (a := ⟨m, 1, none⟩) hpp).trans h2.c1, (h2.blk.same hpp).unfrozen 1⟩, h2.setK kind _ ho3.out hg3.out.1, ?_, ?_⟩
    · exact (((Kp.refl G Y).alloc _).grown hg3.out.1 (fun b hb => .inl (h2.gk b hb))).setCell (p := ⟨m, 1, none⟩) (.inl h2.gm) _
    · rintro b (q | q)
      · exact .inl q
      · rcases hg3.out.2 with r | r
        · exact .inl (h2.gk b (r ▸ q))
        · rw [r] at q
          cases q
          exact .inr (by omega)
  have c1 := h2.c1
  have HG1 := h2.glt
  have HGM : Hid (G m) := h2.gm
  have HGL : Hid (∀ b, (Value.slice lq (A.length + 1) lc).ownBlock = some b → G b) := h2.gl
  clear h2
  go_wp2_with (first
    | (at_builtin; refine wpList_app 31 30 _ 1 8 Tryd.underlying31 info30 (by rfl) (by decide) (by decide) (by rfl) _ _ (by rfl) 0 kv ((A.map (·.1)).length + 1) _ (by rfl) HKS.out _ (by rfl) HO1.out (by rfl) (by omega) (Nat.zero_le _) ?_; intro kv' w3 ho3 hg3; obtain ⟨kq, kc, rfl, -, -⟩ := own_slice ho3.out; obtain ⟨⟨d1, e1⟩, HB3⟩ := HBK.out _ w3 ho3 hg3)
    | fail)
  clear HKS HBK c1 d1 e1 HO1 ho3 hg3
  rw [hKl] at HB3
  generalize w3.setCell ⟨m, 1, none⟩ (.slice kq (A.length + 1 + 1) kc) = Z at HB3 ⊢
  obtain ⟨h5, k5, g5⟩ := HB3.out
  clear HB3
  generalize Value.slice kq (A.length + 1 + 1) kc = kv2 at h5 g5
  have hzr := fun W : World => zeros_any kind n W (by omega)
  have c2 := h5.c2
  have hsz5 := k5.size
  have HZD : Hid (Below Z.heap.size Z Z.drew) := (Below.refl _ _).drew
  have HBL : Hid (∀ w4, Below Z.heap.size Z w4 → BookAt w4 m p A (A.map (·.1) ++ [kind]) (usedS A) kv2 (.slice lq (A.length + 1) lc) Ls (fun b => G b ∨ kv2.ownBlock = some b)) := fun w4 hb => h5.next hb
  have HK4 : Hid (∀ w4, Below Z.heap.size Z w4 → Kp G Y w4) := fun w4 hb => k5.next hb
  have HOW : Hid (∀ w4 v, Below Z.heap.size Z w4 → (w4.alloc (.cells #[v] 59)).ownsRow 0 59 1 (.slice lq (A.length + 1) lc) (A.length + 1) (.slice none 0 0 :: Ls) ∧ (w4.alloc (.cells #[v] 59)).rangeAt w4.heap.size 0 [v]) := fun w4 v hb => by
    refine ⟨(h5.next hb).ls.alloc _, fun j u hu => ?_⟩
    rw [Nat.zero_add]
    simp only [World.cell?, World.alloc_heap_new w4 _]
    simpa using hu
  have HC2 : Hid (∀ w4 v w5, Below Z.heap.size Z w4 → (w4.alloc (.cells #[v] 59)).grownBy w5 (Value.slice lq (A.length + 1) lc).ownBlock → w5.cell? ⟨m, 2, none⟩ = some (.slice lq (A.length + 1) lc) ∧ w5.frozen? ⟨m, 2, none⟩ = false) := fun w4 v w5 hb hg => by
    have h6 := h5.next hb
    have hpp : w5.heap[m]? = w4.heap[m]? := (hg.block m (by have := h6.blk.lt; simp; omega) (fun e => own_ne h6.ls h6.blk (by decide) e.symm)).trans (Below.heap_alloc _ _ _ h6.blk.lt)
    exact ⟨(World.cell?_of_block (w := w4) (w' := w5) (a := ⟨m, 2, none⟩) hpp).trans h6.c2, (h6.blk.same hpp).unfrozen 2⟩
  have H5L : Hid (∀ g, (G g ∨ kv2.ownBlock = some g) → g < Z.heap.size) := h5.glt
  have H1H : Hid (HeapOf Y p lim (A ++ [(kind, List.replicate n (kind, 0, e0))]) F' ∧ (∀ b, F' b → ¬ G b) ∧ (∀ b, F' b → B ≤ b) ∧ Below B w Y ∧ Kp G Y Z ∧ ∀ b, (G b ∨ kv2.ownBlock = some b) → G b ∨ Y.heap.size ≤ b) := ⟨h1, h3, h4, B2, k5, g5⟩
  have HGB : Hid (∀ b, G b → B ≤ b) := hGB
  clear h5 h1 h3 h4 B2 k5 g5 hsub hsub2 hd hFB hGB hbB HG1 hKl
  go_region_law (first
    | (refine step_call (by rfl) 30 [.tmp 80, .tmp 81] #[30, 2] [.int .i64 kind, .int .i64 (n : Int)] (by rfl) (by rfl) (callz _ _) _ (hzr _) ?_; rintro v w4 ⟨hv4, hb4⟩; obtain ⟨vq, vp, rfl, -, -⟩ := own_slice hv4.out; have hb5 : Below Z.heap.size Z w4 := HZD.out.trans (hb4.mono (Nat.le_refl _)); have d2 : w4.cell? ⟨m, 2, none⟩ = some (.slice lq (A.length + 1) lc) := (HBL.out w4 hb5).c2; have d2a : (w4.alloc (.cells #[.slice vq n vp] 59)).cell? ⟨m, 2, none⟩ = some (.slice lq (A.length + 1) lc) := cell_alloc_l _ d2)
    | (refine step_app 32 59 _ 1 24 Tryd.underlying32 info59 (by rfl) (by decide) (by decide) (by rfl) _ _ (by rfl) 0 _ (A.length + 1) (.slice none 0 0 :: Ls) (by rfl) (HOW.out w4 _ hb5).1 w4.heap.size [.slice vq n vp] (by rfl) (one_slice vq n vp) (by rfl) (HOW.out w4 _ hb5).2 (by omega) (Nat.zero_le _) ?_; intro lv' w5 ho5 hg5; obtain ⟨d3, e3⟩ := HC2.out w4 _ w5 hb5 hg5.out.1; obtain ⟨lq5, lc5, rfl, -, -⟩ := own_slice ho5.out))
  all_goals
    obtain ⟨q1, q2, q3, q4, q5, q6⟩ := H1H.out
    obtain ⟨⟨c3, e4⟩, hst, hbl⟩ := makes_fin q1 q2 q3 q4 (by have := q4.size; omega) q5 q6 HGB.out (HBL.out Z (Below.refl _ _)) HGM.out HGL.out hb5 hv4.out _ ho5.out hg5.out.1 hg5.out.2
    have HST : Hid _ := hst
    have HBB : Hid _ := hbl
    have hu4 : (usedS A : Int) ≤ 100000 := by omega
    have hu5 : (n : Int) ≤ 100000 := by omega
    clear q1 q2 q3 q4 q5 q6 hst hbl d2 d2a d3 e3 hb4 hb5 ho5 hg5 hv4 c2
    generalize w5.setCell ⟨m, 2, none⟩ (.slice lq5 (A.length + 1 + 1) lc5) = Z2 at c3 e4 HST HBB ⊢
    go_wp2
    go_ret
    exact ⟨rfl, HST, HBB.out⟩
end Go.Proofs.YtdcioemjmmhbhaaDoor
