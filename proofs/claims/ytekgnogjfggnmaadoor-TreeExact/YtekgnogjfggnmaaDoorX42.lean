import Derived.Test.YtekgnogjfggnmaaDoorX41
namespace Go.Proofs.YtekgnogjfggnmaaDoor
open Go.RowKit Go.Shelf

theorem one_last : lastS [oneNd] 0 = 0 := by
  have h : hasS [oneNd] 0 = true := by unfold hasS; rw [one_tree]; rfl
  unfold lastS
  rw [if_pos h]
  rfl

/-- All that holds in every world behind the twins. -/
structure Grd (W wT : World) (p : Option Addr) (n cap : Nat) (L : List Nd) (q : Option Addr) (m cap2 : Nat) (L2 : List Nd) (N : Int) (Tx : ByteArray) (pa : Option Addr) (ca : Nat) (pb : Option Addr) (cb b3 b4 : Nat) (w' : World) : Prop where
  c0 : w'.cell? ⟨W.heap.size, 0, none⟩ = some (.slice p n cap)
  c1 : w'.cell? ⟨W.heap.size, 1, none⟩ = some (.slice q m cap2)
  c2 : w'.cell? ⟨W.heap.size, 2, none⟩ = some (.int .i64 N)
  c3 : w'.cell? ⟨W.heap.size, 3, none⟩ = some (.string Tx)
  d3 : w'.cell? ⟨b3, 0, none⟩ = some (.slice pa n ca)
  d4 : w'.cell? ⟨b4, 0, none⟩ = some (.slice pb m cb)
  ra : Arg w' p n cap L
  rb : Arg w' q m cap2 L2
  ta : TwA w' W.heap.size p n L pa ca
  tb : TwA w' W.heap.size q m L2 pb cb
  tt : Tbs w'
  sz : wT.heap.size ≤ w'.heap.size

set_option maxRecDepth 100000 in
set_option maxHeartbeats 20000000 in
theorem treeExact_any (W : World) (p : Option Addr) (n cap : Nat) (L : List Nd) (q : Option Addr) (m cap2 : Nat) (L2 : List Nd) (N : Int) (Tx : ByteArray) (hA : Arg W p n cap L) (hB : Arg W q m cap2 L2) (hT : Tbs W) (h7 : 7 ≤ W.heap.size) (hr : Rng L) (hp : RngP L) (hr2 : Rng L2) (hp2 : RngP L2) :
    Calls Tryd.prog 5 #[.agg #[.slice p n cap, .slice q m cap2, .int .i64 N, .string Tx]] W fun e W' => e = .returned (.bool true) ∧ Below W.heap.size W W' := by
  obtain ⟨W1, hW1⟩ : ∃ W1, W.alloc (.cells #[.slice p n cap, .slice q m cap2, .int .i64 N, .string Tx] 39) = W1 := ⟨_, rfl⟩
  have B1 : Hid (Below W.heap.size W W1) := by rw [← hW1]; exact (Below.refl _ W).alloc (Nat.le_refl _) _
  have z1 : W1.heap.size = W.heap.size + 1 := by rw [← hW1]; simp
  have HC : Hid (∀ (w' : World) (j : Nat) (v : Value), Below W1.heap.size W1 w' → (#[.slice p n cap, .slice q m cap2, .int .i64 N, .string Tx] : Array Value)[j]? = some v → w'.cell? ⟨W.heap.size, j, none⟩ = some v) := fun w' j v hb hv => by
    rw [hb.cell (p := ⟨W.heap.size, j, none⟩) (by show W.heap.size < _; omega), ← hW1]; exact cell_new _ _ _ _ _ hv
  have HX : Hid (∀ w', Below W1.heap.size W1 w' → Arg w' p n cap L ∧ Arg w' q m cap2 L2 ∧ Tbs w') := fun w' hb =>
    ⟨(hA.next B1.out).next hb, (hB.next B1.out).next hb, (hT.on B1.out h7).on hb (by omega)⟩
  have HFA : Hid (Fine L ∧ L.length = n ∧ Fine L2 ∧ L2.length = m) := ⟨hA.reads.1, hA.reads.2.1, hB.reads.1, hB.reads.2.1⟩
  have HRG : Hid (Rng L ∧ RngP L ∧ Rng L2 ∧ RngP L2) := ⟨hr, hp, hr2, hp2⟩
  have H7o : Hid (∀ (w' : World) (p' : Option Addr) (c' : Nat), Below W1.heap.size W1 w' → Reads w' p' 1 [oneNd] → Calls Tryd.prog 7 #[.agg #[.slice p' 1 c']] w' fun e w'' => e = .returned (.int .i64 0) ∧ Below w'.heap.size w' w'') := fun w' p' c' hb hrd => by
    have := valid_any w' p' 1 c' [oneNd] hrd (HX.out w' hb).2.2.kw
    rw [one_tree] at this
    exact this
  have H11o : Hid (∀ (w' : World) (p' : Option Addr) (c' : Nat), Below W1.heap.size W1 w' → Reads w' p' 1 [oneNd] → Calls Tryd.prog 11 #[.agg #[.slice p' 1 c'], .int .i64 0] w' fun e w'' => e = .returned (.int .i64 0) ∧ Below w'.heap.size w' w'') := fun w' p' c' hb hrd => by
    have := last_any w' p' 1 c' [oneNd] 0 hrd (HX.out w' hb).2.2.kw
    rw [one_last] at this
    exact this
  have H6A : Hid (∀ w', Below W1.heap.size W1 w' → Calls Tryd.prog 6 #[.agg #[.slice p n cap]] w' fun e w'' => AnyB e ∧ Below w'.heap.size w' w'') := fun w' hb => deep_any w' p n cap L (HX.out w' hb).1.reads
  have H6B : Hid (∀ w', Below W1.heap.size W1 w' → Calls Tryd.prog 6 #[.agg #[.slice q m cap2]] w' fun e w'' => AnyB e ∧ Below w'.heap.size w' w'') := fun w' hb => deep_any w' q m cap2 L2 (HX.out w' hb).2.1.reads
  have H8A : Hid (∀ w', Below W1.heap.size W1 w' → Calls Tryd.prog 8 #[.agg #[.slice p n cap]] w' fun e w'' => (∃ pa ca, e = .returned (.agg #[.slice pa n ca]) ∧ Hid (TwA w'' w'.heap.size p n L pa ca)) ∧ Below w'.heap.size w' w'') := fun w' hb => twinA_any w' p n cap L (HX.out w' hb).1
  have H8B : Hid (∀ w', Below W1.heap.size W1 w' → Calls Tryd.prog 8 #[.agg #[.slice q m cap2]] w' fun e w'' => (∃ pa ca, e = .returned (.agg #[.slice pa m ca]) ∧ Hid (TwA w'' w'.heap.size q m L2 pa ca)) ∧ Below w'.heap.size w' w'') := fun w' hb => twinA_any w' q m cap2 L2 (HX.out w' hb).2.1
  have HBW : Hid (∀ w', Below W1.heap.size W1 w' → Below W.heap.size W w') := fun w' hb => B1.out.trans (hb.mono B1.out.size)
  clear hA hB hT hr hp hr2 hp2
  go_enter Tryd.func5, Tryd.ntmps5
  go_upto_region 3 with (first
    | (go_at_call 11; refine (H11o.out w4 p4 k4 hc4 r4.out).mono ?_; rintro e w5 ⟨rfl, hb5⟩; have hc5 := hc4.trans (hb5.mono hc4.size))
    | (go_at_call 10; have hq := hc3; refine (one_any _).mono ?_; rintro e w4 ⟨⟨p4, k4, rfl, r4⟩, hb4⟩; have hc4 := hc3.trans (hb4.mono hc3.size))
    | (go_at_call 7; refine (H7o.out w2 p2 k2 hc2 r2.out).mono ?_; rintro e w3 ⟨rfl, hb3⟩; have hc3 := hc2.trans (hb3.mono hc2.size))
    | (go_at_call 10; refine (one_any _).mono ?_; rintro e w2 ⟨⟨p2, k2, rfl, r2⟩, hc2⟩)
    | go_in)
  clear hW1 H7o H11o r2 r4
  have e0 := HC.out w5 0 (.slice p n cap) hc5 rfl
  go_upto_region 5 with (first
    | (go_at_call 6; have hq := hc6; refine (H6B.out w6 hc6).mono ?_; rintro e w7 ⟨⟨db, rfl⟩, hb7⟩; have hc7 := hc6.trans (hb7.mono hc6.size))
    | (go_at_call 6; refine (H6A.out w5 hc5).mono ?_; rintro e w6 ⟨⟨da, rfl⟩, hb6⟩; have hc6 := hc5.trans (hb6.mono hc5.size); have e1 := HC.out w6 1 (.slice q m cap2) hc6 rfl)
    | go_in)
  all_goals try (go_ret; first | exact ⟨rfl, HBW.out _ hc7⟩ | exact ⟨rfl, HBW.out _ hc6⟩)
  clear e0 e1 H6A H6B hb3 hb4 hb5 hb6 hb7 hc2 hc3 hc4 hc5 hc6
  have e0 := HC.out w7 0 (.slice p n cap) hc7 rfl
  go_upto_region 6 with (first
    | (go_at_call 8; refine (H8A.out w7 hc7).mono ?_; rintro e w8 ⟨⟨pa, ca, rfl, ta8⟩, hb8⟩)
    | go_in)
  obtain ⟨w9, hw9⟩ : ∃ w9, w8.alloc (.cells #[.slice pa n ca] 24) = w9 := ⟨_, rfl⟩
  have b89 : Below w8.heap.size w8 w9 := by rw [← hw9]; exact (Below.refl _ w8).alloc (Nat.le_refl _) _
  have hc8 : Below W1.heap.size W1 w8 := hc7.trans (hb8.mono hc7.size)
  have hc9 : Below W1.heap.size W1 w9 := hc8.trans (b89.mono hc8.size)
  have g9 : w9.cell? ⟨w8.heap.size, 0, none⟩ = some (.slice pa n ca) := by rw [← hw9]; exact cell_new _ _ _ _ _ rfl
  have z9 : w9.heap.size = w8.heap.size + 1 := by rw [← hw9]; simp
  have ta9 : Hid (TwA w9 W.heap.size p n L pa ca) := by
    have h := ta8.out.on b89 (.inl (Nat.le_refl _))
    have := hc7.size
    rcases h with h | ⟨B, h1, h2, h3, h4, h5⟩
    · exact .inl h
    · exact .inr ⟨B, h1, h2, h3, by omega, h5⟩
  have HPA : Hid (pa ≠ some ⟨W.heap.size, 0, none⟩ ∧ pa ≠ some ⟨w8.heap.size, 0, none⟩) := by
    have := hc7.size
    rcases ta8.out with ⟨_, _, _, h4, _⟩ | ⟨B, h1, h2, h3, h4, h5, _⟩
    · rw [h4]; exact ⟨fun e => (by cases e), fun e => (by cases e)⟩
    · rw [h2]
      refine ⟨fun e => ?_, fun e => ?_⟩
      · injection e with e; injection e with e1; omega
      · injection e with e; injection e with e1; omega
  rw [hw9]
  clear e0 hb8 ta8 hc7
  have e1 := HC.out w9 1 (.slice q m cap2) hc9 rfl
  go_upto_region 7 with (first
    | (go_at_call 8; refine (H8B.out w9 hc9).mono ?_; rintro e w10 ⟨⟨pb, cb, rfl, tb10⟩, hb10⟩)
    | go_in)
  obtain ⟨wT, hwT⟩ : ∃ wT, w10.alloc (.cells #[.slice pb m cb] 24) = wT := ⟨_, rfl⟩
  have b10T : Below w10.heap.size w10 wT := by rw [← hwT]; exact (Below.refl _ w10).alloc (Nat.le_refl _) _
  have hcT : Below W1.heap.size W1 wT := (hc9.trans (hb10.mono hc9.size)).trans (b10T.mono (Nat.le_trans hc9.size hb10.size))
  have g10 : wT.cell? ⟨w10.heap.size, 0, none⟩ = some (.slice pb m cb) := by rw [← hwT]; exact cell_new _ _ _ _ _ rfl
  have zT : wT.heap.size = w10.heap.size + 1 := by rw [← hwT]; simp
  have b9T : Below w9.heap.size w9 wT := hb10.trans (b10T.mono hb10.size)
  have z10 := hb10.size
  have tbT : TwA wT W.heap.size q m L2 pb cb := by
    have h := tb10.out.on b10T (.inl (Nat.le_refl _))
    have := hc9.size
    rcases h with h | ⟨B, h1, h2, h3, h4, h5⟩
    · exact .inl h
    · exact .inr ⟨B, h1, h2, h3, by omega, h5⟩
  have G : Hid (∀ w', Below wT.heap.size wT w' → Grd W wT p n cap L q m cap2 L2 N Tx pa ca pb cb w8.heap.size w10.heap.size w') := fun w' hb => by
    have hb1 : Below W1.heap.size W1 w' := hcT.trans (hb.mono hcT.size)
    obtain ⟨x1, x2, x3⟩ := HX.out w' hb1
    exact ⟨HC.out w' 0 _ hb1 rfl, HC.out w' 1 _ hb1 rfl, HC.out w' 2 _ hb1 rfl, HC.out w' 3 _ hb1 rfl,
      (hb.cell (p := ⟨w8.heap.size, 0, none⟩) (by show w8.heap.size < _; omega)).trans ((b9T.cell (p := ⟨w8.heap.size, 0, none⟩) (by show w8.heap.size < _; omega)).trans g9),
      (hb.cell (p := ⟨w10.heap.size, 0, none⟩) (by show w10.heap.size < _; omega)).trans g10, x1, x2,
      (ta9.out.on b9T (.inl (Nat.le_refl _))).on hb (.inl (Nat.le_refl _)), tbT.on hb (.inl (Nat.le_refl _)), x3, hb.size⟩
  rw [hwT]
  have HWT : Hid (Below W.heap.size W wT) := HBW.out wT hcT
  have zWT : W.heap.size ≤ wT.heap.size := HWT.out.size
  have zWs : W.heap.size < wT.heap.size := by have := hcT.size; omega
  have h7T : 7 ≤ wT.heap.size := by omega
  have HTW : Hid (∀ B, (pa = some ⟨B, 0, none⟩ ∨ pb = some ⟨B, 0, none⟩) → B < wT.heap.size) := fun B h => h.elim (fun h => (G.out wT (Below.refl _ _)).ta.lt B h) (fun h => tbT.lt B h)
  have z3T : w8.heap.size < wT.heap.size := by omega
  have z4T : w10.heap.size < wT.heap.size := by omega
  obtain ⟨b3, hb3e⟩ : ∃ b3, w8.heap.size = b3 := ⟨_, rfl⟩
  obtain ⟨b4, hb4e⟩ : ∃ b4, w10.heap.size = b4 := ⟨_, rfl⟩
  rw [hb3e] at G z3T HPA ⊢
  rw [hb4e] at G z4T ⊢
  clear hb3e hb4e hw9 hwT b89 hc8 hc9 g9 z9 ta9 e1 hb10 b10T hcT g10 zT b9T z10 tbT tb10 H8A H8B HC HX HBW B1 z1
  obtain ⟨hFL, hLn, hFL2, hL2m⟩ := HFA.out
  obtain ⟨hR1, hR2, hR3, hR4⟩ := HRG.out
  have GA : Hid (∀ w' : World, Below wT.heap.size wT w' → Reads w' pa n L ∧ Reads w' pb m L2 ∧ n ≤ ca ∧ m ≤ cb) := fun w' hb =>
    ⟨(G.out w' hb).ta.reads hFL hLn, (G.out w' hb).tb.reads hFL2 hL2m, (G.out w' hb).ta.cap, (G.out w' hb).tb.cap⟩
  obtain ⟨tA, htA⟩ : ∃ tA : Int, (if treeS nameS typeS L then (0 : Int) else 30) = tA := ⟨_, rfl⟩
  obtain ⟨tB, htB⟩ : ∃ tB : Int, (if treeS nameS typeS L2 then (0 : Int) else 30) = tB := ⟨_, rfl⟩
  obtain ⟨sm, hsm⟩ : ∃ sm : Bool, sameS L L2 = sm := ⟨_, rfl⟩
  obtain ⟨lv, hlv⟩ : ∃ lv : Int, lastS L N = lv := ⟨_, rfl⟩
  obtain ⟨pv, hpv⟩ : ∃ pv : Int, parS L N = pv := ⟨_, rfl⟩
  have H7a : Hid (∀ w' : World, Below wT.heap.size wT w' → Calls Tryd.prog 7 #[.agg #[.slice pa n ca]] w' fun e w'' => e = .returned (.int .i64 tA) ∧ Below w'.heap.size w' w'') := fun w' hb => by
    rw [← htA]; exact valid_any w' pa n ca L (GA.out w' hb).1 (G.out w' hb).tt.kw
  have H7b : Hid (∀ w' : World, Below wT.heap.size wT w' → Calls Tryd.prog 7 #[.agg #[.slice pb m cb]] w' fun e w'' => e = .returned (.int .i64 tB) ∧ Below w'.heap.size w' w'') := fun w' hb => by
    rw [← htB]; exact valid_any w' pb m cb L2 (GA.out w' hb).2.1 (G.out w' hb).tt.kw
  have H17A : Hid (∀ w' : World, Below wT.heap.size wT w' → Calls Tryd.prog 17 #[.agg #[.slice p n cap]] w' fun e w'' => e = .returned (.int .i64 tA) ∧ Below w'.heap.size w' w'') := fun w' hb => by
    rw [← htA]; exact rvalidT_any w' p n cap L (G.out w' hb).ra.reads (G.out w' hb).tt.rk hR1
  have H17B : Hid (∀ w' : World, Below wT.heap.size wT w' → Calls Tryd.prog 17 #[.agg #[.slice q m cap2]] w' fun e w'' => e = .returned (.int .i64 tB) ∧ Below w'.heap.size w' w'') := fun w' hb => by
    rw [← htB]; exact rvalidT_any w' q m cap2 L2 (G.out w' hb).rb.reads (G.out w' hb).tt.rk hR3
  have H9 : Hid (∀ w' : World, Below wT.heap.size wT w' → Calls Tryd.prog 9 #[.agg #[.slice pa n ca], .agg #[.slice pb m cb]] w' fun e w'' => e = .returned (.bool sm) ∧ Below w'.heap.size w' w'') := fun w' hb => by
    rw [← hsm]; exact same_any w' pa n ca pb m cb L L2 (GA.out w' hb).1 (GA.out w' hb).2.1 (G.out w' hb).tt.kw
  have H18 : Hid (∀ w' : World, Below wT.heap.size wT w' → Calls Tryd.prog 18 #[.agg #[.slice p n cap], .agg #[.slice q m cap2]] w' fun e w'' => e = .returned (.bool sm) ∧ Below w'.heap.size w' w'') := fun w' hb => by
    rw [← hsm]; exact rsame_any w' p n cap q m cap2 L L2 (G.out w' hb).ra.reads (G.out w' hb).rb.reads (G.out w' hb).tt.rk hR1 hR3
  have H11 : Hid (∀ w' : World, Below wT.heap.size wT w' → Calls Tryd.prog 11 #[.agg #[.slice pa n ca], .int .i64 N] w' fun e w'' => e = .returned (.int .i64 lv) ∧ Below w'.heap.size w' w'') := fun w' hb => by
    rw [← hlv]; exact last_any w' pa n ca L N (GA.out w' hb).1 (G.out w' hb).tt.kw
  have H19 : Hid (∀ w' : World, Below wT.heap.size wT w' → Calls Tryd.prog 19 #[.agg #[.slice p n cap], .int .i64 N] w' fun e w'' => e = .returned (.int .i64 lv) ∧ Below w'.heap.size w' w'') := fun w' hb => by
    rw [← hlv]; exact rlast_any w' p n cap L N (G.out w' hb).ra.reads (G.out w' hb).tt.rk hR1
  have H12 : Hid (∀ w' : World, Below wT.heap.size wT w' → Calls Tryd.prog 12 #[.agg #[.slice pa n ca], .int .i64 N] w' fun e w'' => e = .returned (.int .i64 pv) ∧ Below w'.heap.size w' w'') := fun w' hb => by
    rw [← hpv]; exact parent_any w' pa n ca L N (GA.out w' hb).1 (G.out w' hb).tt.kw
  have H20 : Hid (∀ w' : World, Below wT.heap.size wT w' → Calls Tryd.prog 20 #[.agg #[.slice p n cap], .int .i64 N] w' fun e w'' => e = .returned (.int .i64 pv) ∧ Below w'.heap.size w' w'') := fun w' hb => by
    rw [← hpv]; exact rparent_any w' p n cap L N (G.out w' hb).ra.reads (G.out w' hb).tt.rk hR1
  obtain ⟨KA, hKA⟩ : ∃ KA, kidsA L N = KA := ⟨_, rfl⟩
  obtain ⟨SA, hSA⟩ : ∃ SA, spineR L N = SA := ⟨_, rfl⟩
  obtain ⟨UA, hUA⟩ : ∃ UA, subA L N = UA := ⟨_, rfl⟩
  have lKA : KA.length ≤ 1353245080300 := by rw [← hKA]; exact Nat.le_trans kidsA_len hFL.len
  have lSA : SA.length ≤ 1353245080300 := by rw [← hSA]; exact Nat.le_trans spineR_len hFL.len
  have lUA : UA.length ≤ 1353245080300 := by rw [← hUA]; exact Nat.le_trans subA_len hFL.len
  have FUA : Hid (Fine UA) := by rw [← hUA]; exact subA_fine hFL
  have H13a : Hid (∀ w' : World, Below wT.heap.size wT w' → Calls Tryd.prog 13 #[.agg #[.slice pa n ca], .int .i64 N] w' fun e w'' => (∃ P c, e = .returned (.slice P KA.length c) ∧ Hid (RowZ w' w'' P c KA)) ∧ Below w'.heap.size w' w'') := fun w' hb => by
    rw [← hKA]; exact kidsR_any w' pa n ca L N (GA.out w' hb).1 (G.out w' hb).tt.kw
  have H14a : Hid (∀ w' : World, Below wT.heap.size wT w' → Calls Tryd.prog 14 #[.agg #[.slice pa n ca], .int .i64 N] w' fun e w'' => (∃ P c, e = .returned (.slice P SA.length c) ∧ Hid (RowZ w' w'' P c SA)) ∧ Below w'.heap.size w' w'') := fun w' hb => by
    rw [← hSA]; exact spineR_any w' pa n ca L N (GA.out w' hb).1 (G.out w' hb).tt.kw
  have H16a : Hid (∀ w' : World, Below wT.heap.size wT w' → Calls Tryd.prog 16 #[.agg #[.slice pa n ca], .int .i64 N] w' fun e w'' => (∃ P c, e = .returned (.agg #[.slice P UA.length c]) ∧ Hid (NRowZ w' w'' P c UA)) ∧ Below w'.heap.size w' w'') := fun w' hb => by
    rw [← hUA]; exact subR_any w' pa n ca L N (GA.out w' hb).1 (GA.out w' hb).2.2.1 (G.out w' hb).tt.kw
  have H22A : Hid (∀ w' : World, Below wT.heap.size wT w' → Calls Tryd.prog 22 #[.agg #[.slice p n cap], .int .i64 N] w' fun e w'' => (∃ P c, e = .returned (.slice P KA.length c) ∧ Hid (IRow w'' P c KA)) ∧ Below w'.heap.size w' w'') := fun w' hb => by
    refine (rKids_any w' p n cap L N (G.out w' hb).ra.reads (G.out w' hb).tt.rk hR1).mono ?_
    rw [hKA]
    rintro e w'' ⟨⟨v, rfl, ho⟩, hb''⟩
    obtain ⟨P, c, rfl, hr⟩ := IRow.of_own ho.out
    exact ⟨⟨P, c, rfl, hr⟩, hb''⟩
  have H23A : Hid (∀ w' : World, Below wT.heap.size wT w' → Calls Tryd.prog 23 #[.agg #[.slice p n cap], .int .i64 N] w' fun e w'' => (∃ P c, e = .returned (.slice P SA.length c) ∧ Hid (IRow w'' P c SA)) ∧ Below w'.heap.size w' w'') := fun w' hb => by
    refine (rspine_any w' p n cap L N (G.out w' hb).ra.reads (G.out w' hb).tt.rk hR1).mono ?_
    rw [hSA]
    rintro e w'' ⟨⟨v, rfl, ho⟩, hb''⟩
    obtain ⟨P, c, rfl, hr⟩ := IRow.of_own ho.out
    exact ⟨⟨P, c, rfl, hr⟩, hb''⟩
  have H25A : Hid (∀ w' : World, Below wT.heap.size wT w' → Calls Tryd.prog 25 #[.agg #[.slice p n cap], .int .i64 N] w' fun e w'' => (∃ P c, e = .returned (.agg #[.slice P UA.length c]) ∧ Hid (Reads w'' P UA.length UA)) ∧ Below w'.heap.size w' w'') := fun w' hb => by
    refine (rsub_any w' p n cap L N (G.out w' hb).ra.reads (G.out w' hb).tt.rk hR1).mono ?_
    rw [hUA]
    rintro e w'' ⟨⟨P, c, rfl, htn⟩, hb''⟩
    exact ⟨⟨P, c, rfl, htn.out.reads FUA.out⟩, hb''⟩
  obtain ⟨KB, hKB⟩ : ∃ KB, kidsA L2 N = KB := ⟨_, rfl⟩
  obtain ⟨SB, hSB⟩ : ∃ SB, spineR L2 N = SB := ⟨_, rfl⟩
  obtain ⟨UB, hUB⟩ : ∃ UB, subA L2 N = UB := ⟨_, rfl⟩
  have lKB : KB.length ≤ 1353245080300 := by rw [← hKB]; exact Nat.le_trans kidsA_len hFL2.len
  have lSB : SB.length ≤ 1353245080300 := by rw [← hSB]; exact Nat.le_trans spineR_len hFL2.len
  have lUB : UB.length ≤ 1353245080300 := by rw [← hUB]; exact Nat.le_trans subA_len hFL2.len
  have FUB : Hid (Fine UB) := by rw [← hUB]; exact subA_fine hFL2
  have H13b : Hid (∀ w' : World, Below wT.heap.size wT w' → Calls Tryd.prog 13 #[.agg #[.slice pb m cb], .int .i64 N] w' fun e w'' => (∃ P c, e = .returned (.slice P KB.length c) ∧ Hid (RowZ w' w'' P c KB)) ∧ Below w'.heap.size w' w'') := fun w' hb => by
    rw [← hKB]; exact kidsR_any w' pb m cb L2 N (GA.out w' hb).2.1 (G.out w' hb).tt.kw
  have H14b : Hid (∀ w' : World, Below wT.heap.size wT w' → Calls Tryd.prog 14 #[.agg #[.slice pb m cb], .int .i64 N] w' fun e w'' => (∃ P c, e = .returned (.slice P SB.length c) ∧ Hid (RowZ w' w'' P c SB)) ∧ Below w'.heap.size w' w'') := fun w' hb => by
    rw [← hSB]; exact spineR_any w' pb m cb L2 N (GA.out w' hb).2.1 (G.out w' hb).tt.kw
  have H16b : Hid (∀ w' : World, Below wT.heap.size wT w' → Calls Tryd.prog 16 #[.agg #[.slice pb m cb], .int .i64 N] w' fun e w'' => (∃ P c, e = .returned (.agg #[.slice P UB.length c]) ∧ Hid (NRowZ w' w'' P c UB)) ∧ Below w'.heap.size w' w'') := fun w' hb => by
    rw [← hUB]; exact subR_any w' pb m cb L2 N (GA.out w' hb).2.1 (GA.out w' hb).2.2.2 (G.out w' hb).tt.kw
  have H22B : Hid (∀ w' : World, Below wT.heap.size wT w' → Calls Tryd.prog 22 #[.agg #[.slice q m cap2], .int .i64 N] w' fun e w'' => (∃ P c, e = .returned (.slice P KB.length c) ∧ Hid (IRow w'' P c KB)) ∧ Below w'.heap.size w' w'') := fun w' hb => by
    refine (rKids_any w' q m cap2 L2 N (G.out w' hb).rb.reads (G.out w' hb).tt.rk hR3).mono ?_
    rw [hKB]
    rintro e w'' ⟨⟨v, rfl, ho⟩, hb''⟩
    obtain ⟨P, c, rfl, hr⟩ := IRow.of_own ho.out
    exact ⟨⟨P, c, rfl, hr⟩, hb''⟩
  have H23B : Hid (∀ w' : World, Below wT.heap.size wT w' → Calls Tryd.prog 23 #[.agg #[.slice q m cap2], .int .i64 N] w' fun e w'' => (∃ P c, e = .returned (.slice P SB.length c) ∧ Hid (IRow w'' P c SB)) ∧ Below w'.heap.size w' w'') := fun w' hb => by
    refine (rspine_any w' q m cap2 L2 N (G.out w' hb).rb.reads (G.out w' hb).tt.rk hR3).mono ?_
    rw [hSB]
    rintro e w'' ⟨⟨v, rfl, ho⟩, hb''⟩
    obtain ⟨P, c, rfl, hr⟩ := IRow.of_own ho.out
    exact ⟨⟨P, c, rfl, hr⟩, hb''⟩
  have H25B : Hid (∀ w' : World, Below wT.heap.size wT w' → Calls Tryd.prog 25 #[.agg #[.slice q m cap2], .int .i64 N] w' fun e w'' => (∃ P c, e = .returned (.agg #[.slice P UB.length c]) ∧ Hid (Reads w'' P UB.length UB)) ∧ Below w'.heap.size w' w'') := fun w' hb => by
    refine (rsub_any w' q m cap2 L2 N (G.out w' hb).rb.reads (G.out w' hb).tt.rk hR3).mono ?_
    rw [hUB]
    rintro e w'' ⟨⟨P, c, rfl, htn⟩, hb''⟩
    exact ⟨⟨P, c, rfl, htn.out.reads FUB.out⟩, hb''⟩
  clear htA htB hsm hlv hpv hKA hSA hUA hKB hSB hUB hFL hLn hFL2 hL2m hR1 hR2 hR3 hR4
  have i2 := (G.out wT (Below.refl _ _)).c2
  have i3 := (G.out wT (Below.refl _ _)).d3
  go_upto_region 8 with (first
    | (go_at_call 13; refine (H13a.out wT (Below.refl _ _)).mono ?_; rintro e w5 ⟨⟨P5, c5, rfl, r5⟩, hb5⟩)
    | go_in)
  clear i2 i3
  have i2 := (G.out w5 hb5).c2
  have i3 := (G.out w5 hb5).d3
  go_upto_region 9 with (first
    | (go_at_call 14; refine (H14a.out w5 hb5).mono ?_; rintro e w6 ⟨⟨P6, c6, rfl, r6⟩, hb6⟩)
    | go_in)
  clear i2 i3
  have hT6 : Below wT.heap.size wT w6 := hb5.trans (hb6.mono hb5.size)
  have i2 := (G.out w6 hT6).c2
  have i3 := (G.out w6 hT6).d3
  go_upto_region 10 with (first
    | (go_at_call 16; refine (H16a.out w6 hT6).mono ?_; rintro e w7 ⟨⟨P7, c7, rfl, r7⟩, hb7⟩)
    | go_in)
  clear i2 i3
  obtain ⟨wK, hwK⟩ : ∃ wK, w7.alloc (.cells #[.slice P7 UA.length c7] 24) = wK := ⟨_, rfl⟩
  have b7K : Below w7.heap.size w7 wK := by rw [← hwK]; exact (Below.refl _ w7).alloc (Nat.le_refl _) _
  have gK : wK.cell? ⟨w7.heap.size, 0, none⟩ = some (.slice P7 UA.length c7) := by rw [← hwK]; exact cell_new _ _ _ _ _ rfl
  have zK : wK.heap.size = w7.heap.size + 1 := by rw [← hwK]; simp
  have hTK : Below wT.heap.size wT wK := (hT6.trans (hb7.mono hT6.size)).trans (b7K.mono (Nat.le_trans hT6.size hb7.size))
  have b5K : Below w5.heap.size w5 wK := (hb6.trans (hb7.mono hb6.size)).trans (b7K.mono (Nat.le_trans hb6.size hb7.size))
  have b6K : Below w6.heap.size w6 wK := hb7.trans (b7K.mono hb7.size)
  have s5 := hb5.size
  have s6 := hb6.size
  have s7 := hb7.size
  have RK : Hid (RowZ wT wK P5 c5 KA ∧ RowZ w5 wK P6 c6 SA ∧ NRowZ w6 wK P7 c7 UA) := ⟨r5.out.next b5K, r6.out.next b6K, r7.out.next b7K⟩
  have LT5 : Hid (∀ g, (Value.slice P5 KA.length c5).ownBlock = some g → g < w5.heap.size) := fun g e => (r5.out.own.lt g e).2
  have LT6 : Hid (∀ g, (Value.slice P6 SA.length c6).ownBlock = some g → g < w6.heap.size) := fun g e => (r6.out.own.lt g e).2
  have LT7 : Hid (∀ g, (Value.slice P7 UA.length c7).ownBlock = some g → g < w7.heap.size) := fun g e => (r7.out.own.lt g e).2
  have HTK : Hid (∀ w', Below wK.heap.size wK w' → Below wT.heap.size wT w') := fun w' hb => hTK.trans (hb.mono hTK.size)
  have HK7 : Hid (∀ w', Below wK.heap.size wK w' → w'.cell? ⟨w7.heap.size, 0, none⟩ = some (.slice P7 UA.length c7)) := fun w' hb => (hb.cell (p := ⟨w7.heap.size, 0, none⟩) (by show w7.heap.size < _; omega)).trans gK
  rw [hwK]
  clear hwK b7K gK hTK b5K b6K r5 r6 r7 hb5 hb6 hb7 hT6
  have SV1 : Hid (∀ w', Below wK.heap.size wK w' → w'.cell? ⟨W.heap.size, 0, none⟩ = some (.slice p n cap) ∧ w'.cell? ⟨W.heap.size, 1, none⟩ = some (.slice q m cap2) ∧ w'.cell? ⟨W.heap.size, 2, none⟩ = some (.int .i64 N) ∧ w'.cell? ⟨b3, 0, none⟩ = some (.slice pa n ca) ∧ w'.cell? ⟨b4, 0, none⟩ = some (.slice pb m cb) ∧ w'.cell? ⟨w7.heap.size, 0, none⟩ = some (.slice P7 UA.length c7) ∧ Below wK.heap.size wK w') := fun w' hb => by
    have g := G.out w' (HTK.out w' hb)
    exact ⟨g.c0, g.c1, g.c2, g.d3, g.d4, HK7.out w' hb, hb⟩
  have hcd : Below wK.heap.size wK wK.drew := (Below.refl _ wK).drew
  go_region_held3 (fun w' => w'.cell? ⟨W.heap.size, 0, none⟩ = some (.slice p n cap) ∧ w'.cell? ⟨W.heap.size, 1, none⟩ = some (.slice q m cap2) ∧ w'.cell? ⟨W.heap.size, 2, none⟩ = some (.int .i64 N) ∧ w'.cell? ⟨b3, 0, none⟩ = some (.slice pa n ca) ∧ w'.cell? ⟨b4, 0, none⟩ = some (.slice pb m cb) ∧ w'.cell? ⟨w7.heap.size, 0, none⟩ = some (.slice P7 UA.length c7) ∧ Below wK.heap.size wK w') (exact SV1.out _ (by assumption))
    (first
    | (go_at_call 18; refine (H18.out _ (HTK.out _ hcd)).mono ?_; rintro e w8 ⟨rfl, hb8⟩; replace hcd := hcd.trans (hb8.mono hcd.size))
    | (go_at_call 9; refine (H9.out _ (HTK.out _ hcd)).mono ?_; rintro e w8 ⟨rfl, hb8⟩; replace hcd := hcd.trans (hb8.mono hcd.size))
    | (go_at_call 17; have hq := mk3; refine (H17B.out _ (HTK.out _ hcd)).mono ?_; rintro e w8 ⟨rfl, hb8⟩; replace hcd := hcd.trans (hb8.mono hcd.size))
    | (go_at_call 7; have hq := mk2; refine (H7b.out _ (HTK.out _ hcd)).mono ?_; rintro e w8 ⟨rfl, hb8⟩; replace hcd := hcd.trans (hb8.mono hcd.size); have mk3 : True := trivial)
    | (go_at_call 17; refine (H17A.out _ (HTK.out _ hcd)).mono ?_; rintro e w8 ⟨rfl, hb8⟩; replace hcd := hcd.trans (hb8.mono hcd.size); have mk2 : True := trivial)
    | (go_at_call 7; refine (H7a.out _ (HTK.out _ hcd)).mono ?_; rintro e w8 ⟨rfl, hb8⟩; replace hcd := hcd.trans (hb8.mono hcd.size)))
  clear H18 H9 H17A H17B H7a H7b
  go_upto_region 12 with fail
  replace hcd := hcd.drew
  go_region_held3 (fun w' => w'.cell? ⟨W.heap.size, 0, none⟩ = some (.slice p n cap) ∧ w'.cell? ⟨W.heap.size, 1, none⟩ = some (.slice q m cap2) ∧ w'.cell? ⟨W.heap.size, 2, none⟩ = some (.int .i64 N) ∧ w'.cell? ⟨b3, 0, none⟩ = some (.slice pa n ca) ∧ w'.cell? ⟨b4, 0, none⟩ = some (.slice pb m cb) ∧ w'.cell? ⟨w7.heap.size, 0, none⟩ = some (.slice P7 UA.length c7) ∧ Below wK.heap.size wK w') (exact SV1.out _ (by assumption))
    (first
    | (go_at_call 11; refine (H11.out _ (HTK.out _ hcd)).mono ?_; rintro e w8 ⟨rfl, hb8⟩; replace hcd := hcd.trans (hb8.mono hcd.size))
    | (go_at_call 19; refine (H19.out _ (HTK.out _ hcd)).mono ?_; rintro e w8 ⟨rfl, hb8⟩; replace hcd := hcd.trans (hb8.mono hcd.size))
    | (go_at_call 12; refine (H12.out _ (HTK.out _ hcd)).mono ?_; rintro e w8 ⟨rfl, hb8⟩; replace hcd := hcd.trans (hb8.mono hcd.size))
    | (go_at_call 20; refine (H20.out _ (HTK.out _ hcd)).mono ?_; rintro e w8 ⟨rfl, hb8⟩; replace hcd := hcd.trans (hb8.mono hcd.size)))
  clear H11 H19 H12 H20
  go_upto_region 14 with fail
  replace hcd := hcd.drew
  have HFLD := fun p n c => fld24 p n c
  go_region_held3 (fun w' => w'.cell? ⟨W.heap.size, 0, none⟩ = some (.slice p n cap) ∧ w'.cell? ⟨W.heap.size, 1, none⟩ = some (.slice q m cap2) ∧ w'.cell? ⟨W.heap.size, 2, none⟩ = some (.int .i64 N) ∧ w'.cell? ⟨b3, 0, none⟩ = some (.slice pa n ca) ∧ w'.cell? ⟨b4, 0, none⟩ = some (.slice pb m cb) ∧ w'.cell? ⟨w7.heap.size, 0, none⟩ = some (.slice P7 UA.length c7) ∧ Below wK.heap.size wK w') (exact SV1.out _ (by assumption))
    (first
    | (go_at_call 24; refine (sameN_reads _ P7 p25 UA.length c7 k25 UA ((RK.out.2.2.next hcd).reads FUA.out) r25.out).mono ?_; rintro e w8 ⟨rfl, hb8⟩; replace hcd := hcd.trans (hb8.mono hcd.size))
    | (go_at_call 25; refine (H25A.out _ (HTK.out _ hcd)).mono ?_; rintro e w8 ⟨⟨p25, k25, rfl, r25⟩, hb8⟩; replace hcd := hcd.trans (hb8.mono hcd.size))
    | (go_at_call 21; have hq := mk4; refine (sameInts_any _ P6 p23 c6 k23 SA lSA (RK.out.2.1.next hcd).irow r23).mono ?_; rintro e w8 ⟨rfl, hb8⟩; replace hcd := hcd.trans (hb8.mono hcd.size))
    | (go_at_call 23; refine (H23A.out _ (HTK.out _ hcd)).mono ?_; rintro e w8 ⟨⟨p23, k23, rfl, r23⟩, hb8⟩; replace hcd := hcd.trans (hb8.mono hcd.size); have mk4 : True := trivial)
    | (go_at_call 21; refine (sameInts_any _ P5 p22 c5 k22 KA lKA (RK.out.1.next hcd).irow r22).mono ?_; rintro e w8 ⟨rfl, hb8⟩; replace hcd := hcd.trans (hb8.mono hcd.size))
    | (go_at_call 22; refine (H22A.out _ (HTK.out _ hcd)).mono ?_; rintro e w8 ⟨⟨p22, k22, rfl, r22⟩, hb8⟩; replace hcd := hcd.trans (hb8.mono hcd.size)))
  go_upto_region 16 with fail
  obtain ⟨y0, hy0⟩ : ∃ y0, w8 = y0 := ⟨_, rfl⟩
  rw [hy0] at hcd ⊢
  clear hy0 SV1
  have t0 : Below wT.heap.size wT y0 := HTK.out _ hcd
  have i2 := (G.out y0 t0).c2
  have i3 := (G.out y0 t0).d4
  go_upto_region 17 with (first
    | (go_at_call 13; refine (H13b.out y0 t0).mono ?_; rintro e y8 ⟨⟨P8, k8, rfl, r8⟩, q8⟩)
    | go_in)
  clear i2 i3
  have t8 : Below wT.heap.size wT y8 := t0.trans (q8.mono t0.size)
  have i2 := (G.out y8 t8).c2
  have i3 := (G.out y8 t8).d4
  go_upto_region 18 with (first
    | (go_at_call 14; refine (H14b.out y8 t8).mono ?_; rintro e y9 ⟨⟨P9, k9, rfl, r9⟩, q9⟩)
    | go_in)
  clear i2 i3
  have t9 : Below wT.heap.size wT y9 := t8.trans (q9.mono t8.size)
  have i2 := (G.out y9 t9).c2
  have i3 := (G.out y9 t9).d4
  go_upto_region 19 with (first
    | (go_at_call 16; refine (H16b.out y9 t9).mono ?_; rintro e y10 ⟨⟨P10, k10, rfl, r10⟩, q10⟩)
    | go_in)
  clear i2 i3
  obtain ⟨yA, hyA⟩ : ∃ yA, y10.alloc (.cells #[.slice P10 UB.length k10] 24) = yA := ⟨_, rfl⟩
  have qA : Below y10.heap.size y10 yA := by rw [← hyA]; exact (Below.refl _ y10).alloc (Nat.le_refl _) _
  have gA : yA.cell? ⟨y10.heap.size, 0, none⟩ = some (.slice P10 UB.length k10) := by rw [← hyA]; exact cell_new _ _ _ _ _ rfl
  have zA : yA.heap.size = y10.heap.size + 1 := by rw [← hyA]; simp
  have t10 : Below wT.heap.size wT y10 := t9.trans (q10.mono t9.size)
  have tA' : Below wT.heap.size wT yA := t10.trans (qA.mono t10.size)
  rw [hyA]
  clear hyA
  have i2 := (G.out yA tA').c2
  have i3 := (G.out yA tA').d3
  go_upto_region 20 with (first
    | (go_at_call 13; refine (H13a.out yA tA').mono ?_; rintro e y11 ⟨⟨P11, k11, rfl, r11⟩, q11⟩)
    | go_in)
  clear i2 i3
  have t11 : Below wT.heap.size wT y11 := tA'.trans (q11.mono tA'.size)
  have i2 := (G.out y11 t11).c2
  have i3 := (G.out y11 t11).d3
  go_upto_region 21 with (first
    | (go_at_call 14; refine (H14a.out y11 t11).mono ?_; rintro e y12 ⟨⟨P12, k12, rfl, r12⟩, q12⟩)
    | go_in)
  clear i2 i3
  have t12 : Below wT.heap.size wT y12 := t11.trans (q12.mono t11.size)
  have i2 := (G.out y12 t12).c2
  have i3 := (G.out y12 t12).d3
  go_upto_region 22 with (first
    | (go_at_call 16; refine (H16a.out y12 t12).mono ?_; rintro e y13 ⟨⟨P13, k13, rfl, r13⟩, q13⟩)
    | go_in)
  clear i2 i3
  obtain ⟨yM, hyM⟩ : ∃ yM, y13.alloc (.cells #[.slice P13 UA.length k13] 24) = yM := ⟨_, rfl⟩
  have qM : Below y13.heap.size y13 yM := by rw [← hyM]; exact (Below.refl _ y13).alloc (Nat.le_refl _) _
  have gM : yM.cell? ⟨y13.heap.size, 0, none⟩ = some (.slice P13 UA.length k13) := by rw [← hyM]; exact cell_new _ _ _ _ _ rfl
  have zM : yM.heap.size = y13.heap.size + 1 := by rw [← hyM]; simp
  have t13 : Below wT.heap.size wT y13 := t12.trans (q13.mono t12.size)
  have tM : Below wT.heap.size wT yM := t13.trans (qM.mono t13.size)
  have e0 := hcd.size
  have e8 := q8.size
  have e9 := q9.size
  have e10 := q10.size
  have e11 := q11.size
  have e12 := q12.size
  have e13 := q13.size
  have uM13 : Below y13.heap.size y13 yM := qM
  have uM12 : Below y12.heap.size y12 yM := q13.trans (uM13.mono e13)
  have uM11 : Below y11.heap.size y11 yM := q12.trans (uM12.mono e12)
  have uMA : Below yA.heap.size yA yM := q11.trans (uM11.mono e11)
  have uM10 : Below y10.heap.size y10 yM := qA.trans (uMA.mono (by omega))
  have uM9 : Below y9.heap.size y9 yM := q10.trans (uM10.mono e10)
  have uM8 : Below y8.heap.size y8 yM := q9.trans (uM9.mono e9)
  have uM0 : Below y0.heap.size y0 yM := q8.trans (uM8.mono e8)
  have uMK : Below wK.heap.size wK yM := hcd.trans (uM0.mono e0)
  have RI : Hid (∀ w', Below yM.heap.size yM w' → RowZ wT w' P5 c5 KA ∧ RowZ w5 w' P6 c6 SA ∧ RowZ y0 w' P8 k8 KB ∧ RowZ y8 w' P9 k9 SB ∧ RowZ yA w' P11 k11 KA ∧ RowZ y11 w' P12 k12 SA) := fun w' hb =>
    ⟨(RK.out.1.next uMK).next hb, (RK.out.2.1.next uMK).next hb, (r8.out.next uM8).next hb, (r9.out.next uM9).next hb, (r11.out.next uM11).next hb, (r12.out.next uM12).next hb⟩
  have RN : Hid (∀ w', Below yM.heap.size yM w' → NRowZ w6 w' P7 c7 UA ∧ NRowZ y9 w' P10 k10 UB ∧ NRowZ y12 w' P13 k13 UA) := fun w' hb =>
    ⟨(RK.out.2.2.next uMK).next hb, (r10.out.next uM10).next hb, (r13.out.next uM13).next hb⟩
  have LT8 : Hid (∀ g, (Value.slice P8 KB.length k8).ownBlock = some g → g < y8.heap.size) := fun g e => (r8.out.own.lt g e).2
  have LT9 : Hid (∀ g, (Value.slice P9 SB.length k9).ownBlock = some g → g < y9.heap.size) := fun g e => (r9.out.own.lt g e).2
  have LT10 : Hid (∀ g, (Value.slice P10 UB.length k10).ownBlock = some g → g < y10.heap.size) := fun g e => (r10.out.own.lt g e).2
  have LT11 : Hid (∀ g, (Value.slice P11 KA.length k11).ownBlock = some g → g < y11.heap.size) := fun g e => (r11.out.own.lt g e).2
  have LT12 : Hid (∀ g, (Value.slice P12 SA.length k12).ownBlock = some g → g < y12.heap.size) := fun g e => (r12.out.own.lt g e).2
  have LT13 : Hid (∀ g, (Value.slice P13 UA.length k13).ownBlock = some g → g < y13.heap.size) := fun g e => (r13.out.own.lt g e).2
  have HTM : Hid (∀ w', Below yM.heap.size yM w' → Below wT.heap.size wT w') := fun w' hb => tM.trans (hb.mono tM.size)
  have SV2 : Hid (∀ w', Below yM.heap.size yM w' → w'.cell? ⟨W.heap.size, 0, none⟩ = some (.slice p n cap) ∧ w'.cell? ⟨W.heap.size, 1, none⟩ = some (.slice q m cap2) ∧ w'.cell? ⟨W.heap.size, 2, none⟩ = some (.int .i64 N) ∧ w'.cell? ⟨w7.heap.size, 0, none⟩ = some (.slice P7 UA.length c7) ∧ w'.cell? ⟨y10.heap.size, 0, none⟩ = some (.slice P10 UB.length k10) ∧ w'.cell? ⟨y13.heap.size, 0, none⟩ = some (.slice P13 UA.length k13) ∧ Below yM.heap.size yM w') := fun w' hb => by
    have g := G.out w' (HTM.out w' hb)
    exact ⟨g.c0, g.c1, g.c2, (hb.cell (p := ⟨w7.heap.size, 0, none⟩) (by show w7.heap.size < _; omega)).trans (HK7.out yM uMK), (hb.cell (p := ⟨y10.heap.size, 0, none⟩) (by show y10.heap.size < _; omega)).trans ((uMA.cell (p := ⟨y10.heap.size, 0, none⟩) (by show y10.heap.size < _; omega)).trans gA), (hb.cell (p := ⟨y13.heap.size, 0, none⟩) (by show y13.heap.size < _; omega)).trans gM, hb⟩
  rw [hyM]
  clear hyM q8 q9 q10 q11 q12 q13 qA qM gA gM t8 t9 t10 tA' t11 t12 t13 uM13 uM12 uM11 uMA uM10 uM9 uM8 uM0 uMK r8 r9 r10 r11 r12 r13 hcd t0 HK7 HTK RK H13b H14b H16b H14a H16a
  have hcd : Below yM.heap.size yM yM.drew := (Below.refl _ yM).drew
  go_region_held3 (fun w' => w'.cell? ⟨W.heap.size, 0, none⟩ = some (.slice p n cap) ∧ w'.cell? ⟨W.heap.size, 1, none⟩ = some (.slice q m cap2) ∧ w'.cell? ⟨W.heap.size, 2, none⟩ = some (.int .i64 N) ∧ w'.cell? ⟨w7.heap.size, 0, none⟩ = some (.slice P7 UA.length c7) ∧ w'.cell? ⟨y10.heap.size, 0, none⟩ = some (.slice P10 UB.length k10) ∧ w'.cell? ⟨y13.heap.size, 0, none⟩ = some (.slice P13 UA.length k13) ∧ Below yM.heap.size yM w') (exact SV2.out _ (by assumption))
    (first
    | (go_at_call 24; have hq := rz25; refine (sameN_reads _ P7 pz25 UA.length c7 kz25 UA ((RN.out _ hcd).1.reads FUA.out) rz25.out).mono ?_; rintro e w8 ⟨rfl, hb8⟩; replace hcd := hcd.trans (hb8.mono hcd.size))
    | (go_at_call 25; refine (H25A.out _ (HTM.out _ hcd)).mono ?_; rintro e w8 ⟨⟨pz25, kz25, rfl, rz25⟩, hb8⟩; replace hcd := hcd.trans (hb8.mono hcd.size))
    | (go_at_call 21; have hq := rz23; refine (sameInts_any _ P6 pz23 c6 kz23 SA lSA (RI.out _ hcd).2.1.irow rz23).mono ?_; rintro e w8 ⟨rfl, hb8⟩; replace hcd := hcd.trans (hb8.mono hcd.size))
    | (go_at_call 23; refine (H23A.out _ (HTM.out _ hcd)).mono ?_; rintro e w8 ⟨⟨pz23, kz23, rfl, rz23⟩, hb8⟩; replace hcd := hcd.trans (hb8.mono hcd.size))
    | (go_at_call 21; have hq := rz22; refine (sameInts_any _ P5 pz22 c5 kz22 KA lKA (RI.out _ hcd).1.irow rz22).mono ?_; rintro e w8 ⟨rfl, hb8⟩; replace hcd := hcd.trans (hb8.mono hcd.size))
    | (go_at_call 22; refine (H22A.out _ (HTM.out _ hcd)).mono ?_; rintro e w8 ⟨⟨pz22, kz22, rfl, rz22⟩, hb8⟩; replace hcd := hcd.trans (hb8.mono hcd.size))
    | (go_at_call 24; refine (sameN_reads _ P7 P13 UA.length c7 k13 UA ((RN.out _ hcd).1.reads FUA.out) ((RN.out _ hcd).2.2.reads FUA.out)).mono ?_; rintro e w8 ⟨rfl, hb8⟩; replace hcd := hcd.trans (hb8.mono hcd.size))
    | (go_at_call 21; have hq := mm1; refine (sameInts_any _ P6 P12 c6 k12 SA lSA (RI.out _ hcd).2.1.irow (RI.out _ hcd).2.2.2.2.2.irow).mono ?_; rintro e w8 ⟨rfl, hb8⟩; replace hcd := hcd.trans (hb8.mono hcd.size))
    | (go_at_call 21; refine (sameInts_any _ P5 P11 c5 k11 KA lKA (RI.out _ hcd).1.irow (RI.out _ hcd).2.2.2.2.1.irow).mono ?_; rintro e w8 ⟨rfl, hb8⟩; replace hcd := hcd.trans (hb8.mono hcd.size); have mm1 : True := trivial))
  go_upto_region 24 with fail
  replace hcd := hcd.drew
  go_region_held3 (fun w' => w'.cell? ⟨W.heap.size, 0, none⟩ = some (.slice p n cap) ∧ w'.cell? ⟨W.heap.size, 1, none⟩ = some (.slice q m cap2) ∧ w'.cell? ⟨W.heap.size, 2, none⟩ = some (.int .i64 N) ∧ w'.cell? ⟨w7.heap.size, 0, none⟩ = some (.slice P7 UA.length c7) ∧ w'.cell? ⟨y10.heap.size, 0, none⟩ = some (.slice P10 UB.length k10) ∧ w'.cell? ⟨y13.heap.size, 0, none⟩ = some (.slice P13 UA.length k13) ∧ Below yM.heap.size yM w') (exact SV2.out _ (by assumption))
    (first
    | (go_at_call 24; have hq := rx25; refine (sameN_reads _ P10 px25 UB.length k10 kx25 UB ((RN.out _ hcd).2.1.reads FUB.out) rx25.out).mono ?_; rintro e w8 ⟨rfl, hb8⟩; replace hcd := hcd.trans (hb8.mono hcd.size))
    | (go_at_call 25; refine (H25B.out _ (HTM.out _ hcd)).mono ?_; rintro e w8 ⟨⟨px25, kx25, rfl, rx25⟩, hb8⟩; replace hcd := hcd.trans (hb8.mono hcd.size))
    | (go_at_call 21; have hq := rx23; refine (sameInts_any _ P9 px23 k9 kx23 SB lSB (RI.out _ hcd).2.2.2.1.irow rx23).mono ?_; rintro e w8 ⟨rfl, hb8⟩; replace hcd := hcd.trans (hb8.mono hcd.size))
    | (go_at_call 23; refine (H23B.out _ (HTM.out _ hcd)).mono ?_; rintro e w8 ⟨⟨px23, kx23, rfl, rx23⟩, hb8⟩; replace hcd := hcd.trans (hb8.mono hcd.size))
    | (go_at_call 21; have hq := rx22; refine (sameInts_any _ P8 px22 k8 kx22 KB lKB (RI.out _ hcd).2.2.1.irow rx22).mono ?_; rintro e w8 ⟨rfl, hb8⟩; replace hcd := hcd.trans (hb8.mono hcd.size))
    | (go_at_call 22; refine (H22B.out _ (HTM.out _ hcd)).mono ?_; rintro e w8 ⟨⟨px22, kx22, rfl, rx22⟩, hb8⟩; replace hcd := hcd.trans (hb8.mono hcd.size)))
  go_upto_region 26 with fail
  obtain ⟨yF, hyF⟩ : ∃ yF, w8 = yF := ⟨_, rfl⟩
  rw [hyF] at hcd ⊢
  clear hyF H22B H23B H25B H23A H25A
  obtain ⟨yG, hyG⟩ : ∃ yG, yF.alloc (.cells #[.slice P5 KA.length c5, .slice P6 SA.length c6, .slice P8 KB.length k8, .slice P9 SB.length k9, .slice P11 KA.length k11, .slice P12 SA.length k12] 41) = yG := ⟨_, rfl⟩
  obtain ⟨yZ, hyZ⟩ : ∃ yZ, yG.alloc (.cells #[.slice P7 UA.length c7, .slice P10 UB.length k10, .slice P13 UA.length k13] 22) = yZ := ⟨_, rfl⟩
  have qG : Below yF.heap.size yF yG := by rw [← hyG]; exact (Below.refl _ yF).alloc (Nat.le_refl _) _
  have qZ : Below yG.heap.size yG yZ := by rw [← hyZ]; exact (Below.refl _ yG).alloc (Nat.le_refl _) _
  have zG : yG.heap.size = yF.heap.size + 1 := by rw [← hyG]; simp
  have zZ : yZ.heap.size = yG.heap.size + 1 := by rw [← hyZ]; simp
  have hcG : Below yM.heap.size yM yG := hcd.trans (qG.mono hcd.size)
  have hcZ : Below yM.heap.size yM yZ := hcG.trans (qZ.mono hcG.size)
  have tZ : Below wT.heap.size wT yZ := HTM.out _ hcZ
  have o1 : yZ.heap[yF.heap.size]? = some (.cells #[.slice P5 KA.length c5, .slice P6 SA.length c6, .slice P8 KB.length k8, .slice P9 SB.length k9, .slice P11 KA.length k11, .slice P12 SA.length k12] 41 (0, 0)) := by
    rw [qZ.block _ (by omega), ← hyG]; exact heap_alloc_new _ _
  have o2 : yZ.heap[yF.heap.size + 1]? = some (.cells #[.slice P7 UA.length c7, .slice P10 UB.length k10, .slice P13 UA.length k13] 22 (0, 0)) := by
    rw [← zG, ← hyZ]; exact heap_alloc_new _ _
  obtain ⟨x1, x2, x3, x4, x5, x6⟩ := RI.out yZ hcZ
  have zTZ := tZ.size
  have zM' := hcd.size
  have H26 : Hid (Calls Tryd.prog 26 #[.slice (some ⟨yF.heap.size, 0, none⟩) 6 6] yZ fun e w' => e = .returned (.bool true) ∧ ApI.KB wT.heap.size yZ w') := by
    refine apart6 yZ wT.heap.size yF.heap.size (fun k => match k with | 0 => wT.heap.size | 1 => w5.heap.size | 2 => y0.heap.size | 3 => y8.heap.size | 4 => yA.heap.size | 5 => y11.heap.size | _ => y12.heap.size)
      (fun k => match k with | 0 => .slice P5 KA.length c5 | 1 => .slice P6 SA.length c6 | 2 => .slice P8 KB.length k8 | 3 => .slice P9 SB.length k9 | 4 => .slice P11 KA.length k11 | _ => .slice P12 SA.length k12)
      (fun k => match k with | 0 => KA | 1 => SA | 2 => KB | 3 => SB | 4 => KA | _ => SA) o1 (Nat.le_refl _) ?_ ?_ ?_ ?_ ?_ zTZ
    · intro k hk
      match k, hk with
      | 0, _ => exact x1.own
      | 1, _ => exact x2.own
      | 2, _ => exact x3.own
      | 3, _ => exact x4.own
      | 4, _ => exact x5.own
      | 5, _ => exact x6.own
    · intro k hk g hg
      match k, hk with
      | 0, _ => exact LT5.out g hg
      | 1, _ => have h := LT6.out g hg; show g < y0.heap.size; omega
      | 2, _ => exact LT8.out g hg
      | 3, _ => have h := LT9.out g hg; show g < yA.heap.size; omega
      | 4, _ => exact LT11.out g hg
      | 5, _ => exact LT12.out g hg
    · intro k hk he
      match k, hk with
      | 0, _ => obtain ⟨h1, h2⟩ := x1.nil he; have he' : KA = [] := he; show Value.slice P5 KA.length c5 = _; rw [h1, h2, he']; rfl
      | 1, _ => obtain ⟨h1, h2⟩ := x2.nil he; have he' : SA = [] := he; show Value.slice P6 SA.length c6 = _; rw [h1, h2, he']; rfl
      | 2, _ => obtain ⟨h1, h2⟩ := x3.nil he; have he' : KB = [] := he; show Value.slice P8 KB.length k8 = _; rw [h1, h2, he']; rfl
      | 3, _ => obtain ⟨h1, h2⟩ := x4.nil he; have he' : SB = [] := he; show Value.slice P9 SB.length k9 = _; rw [h1, h2, he']; rfl
      | 4, _ => obtain ⟨h1, h2⟩ := x5.nil he; have he' : KA = [] := he; show Value.slice P11 KA.length k11 = _; rw [h1, h2, he']; rfl
      | 5, _ => obtain ⟨h1, h2⟩ := x6.nil he; have he' : SA = [] := he; show Value.slice P12 SA.length k12 = _; rw [h1, h2, he']; rfl
    · intro k hk
      match k, hk with
      | 0, _ => exact s5
      | 1, _ => show w5.heap.size ≤ y0.heap.size; omega
      | 2, _ => exact e8
      | 3, _ => show y8.heap.size ≤ yA.heap.size; omega
      | 4, _ => exact e11
      | 5, _ => exact e12
    · intro k hk
      match k, hk with
      | 0, _ => exact lKA
      | 1, _ => exact lSA
      | 2, _ => exact lKB
      | 3, _ => exact lSB
      | 4, _ => exact lKA
      | 5, _ => exact lSA
  have zT6 : wT.heap.size ≤ w6.heap.size := by omega
  have zT9 : wT.heap.size ≤ y9.heap.size := by omega
  have zT12 : wT.heap.size ≤ y12.heap.size := by omega
  have zab : w7.heap.size ≤ y9.heap.size := by omega
  have zac : w7.heap.size ≤ y12.heap.size := by omega
  have zbc : y10.heap.size ≤ y12.heap.size := by omega
  have H27 : Hid (∀ z1, ApI.KB wT.heap.size yZ z1 → Calls Tryd.prog 27 #[.slice (some ⟨yF.heap.size + 1, 0, none⟩) 3 3] z1 fun e w' => e = .returned (.bool true) ∧ Below wT.heap.size z1 w') := fun z1 hk => by
    obtain ⟨n1, n2, n3⟩ := RN.out yZ hcZ
    refine apart3 z1 wT.heap.size (yF.heap.size + 1) (fun k => match k with | 0 => w6.heap.size | 1 => y9.heap.size | _ => y12.heap.size) (fun k => match k with | 0 => w7.heap.size | 1 => y10.heap.size | _ => y13.heap.size)
      (fun k => match k with | 0 => .slice P7 UA.length c7 | 1 => .slice P10 UB.length k10 | _ => .slice P13 UA.length k13)
      (fun k => match k with | 0 => UA | 1 => UB | _ => UA) (hk.o _ _ o2 (by simp) (fun c fz e => by injection e with _ e2; exact absurd e2 (by decide))) ?_ ?_ ?_ ?_ ?_ ?_ (Nat.le_trans zTZ hk.size)
    · intro k hk'
      match k, hk' with
      | 0, _ => exact zT6
      | 1, _ => exact zT9
      | 2, _ => exact zT12
    · intro k hk'
      match k, hk' with
      | 0, _ => exact own_other hk.o n1.own (by decide)
      | 1, _ => exact own_other hk.o n2.own (by decide)
      | 2, _ => exact own_other hk.o n3.own (by decide)
    · intro k hk' g hg
      match k, hk' with
      | 0, _ => exact LT7.out g hg
      | 1, _ => exact LT10.out g hg
      | 2, _ => exact LT13.out g hg
    · intro i j hij hj
      have h : (i = 0 ∧ j = 1) ∨ (i = 0 ∧ j = 2) ∨ (i = 1 ∧ j = 2) := by omega
      rcases h with ⟨rfl, rfl⟩ | ⟨rfl, rfl⟩ | ⟨rfl, rfl⟩
      · exact zab
      · exact zac
      · exact zbc
    · intro k hk' he
      match k, hk' with
      | 0, _ => obtain ⟨h1, h2⟩ := n1.nil he; have he' : UA.length = 0 := he; show Value.slice P7 UA.length c7 = _; rw [h1, h2, he']
      | 1, _ => obtain ⟨h1, h2⟩ := n2.nil he; have he' : UB.length = 0 := he; show Value.slice P10 UB.length k10 = _; rw [h1, h2, he']
      | 2, _ => obtain ⟨h1, h2⟩ := n3.nil he; have he' : UA.length = 0 := he; show Value.slice P13 UA.length k13 = _; rw [h1, h2, he']
    · intro k hk'
      match k, hk' with
      | 0, _ => exact lUA
      | 1, _ => exact lUB
      | 2, _ => exact lUA
  have H28a : Hid (∀ w', Below wT.heap.size wT w' → Calls Tryd.prog 28 #[.agg #[.slice pa n ca], .agg #[.slice p n cap]] w' fun e w'' => e = .returned (.bool true) ∧ Below w'.heap.size w' w'') := fun w' hb => untA_any w' W.heap.size p pa n cap ca L (G.out w' hb).ta (G.out w' hb).ra
  have H28b : Hid (∀ w', Below wT.heap.size wT w' → Calls Tryd.prog 28 #[.agg #[.slice pb m cb], .agg #[.slice q m cap2]] w' fun e w'' => e = .returned (.bool true) ∧ Below w'.heap.size w' w'') := fun w' hb => untA_any w' W.heap.size q pb m cap2 cb L2 (G.out w' hb).tb (G.out w' hb).rb
  have H29 : Hid (∀ w', Below wT.heap.size wT w' → Calls Tryd.prog 29 #[.agg #[.slice pa n ca], .agg #[.slice p n cap, .slice q m cap2, .int .i64 N, .string Tx]] w' fun e w'' => e = .returned (.bool true) ∧ Below W.heap.size w' w'' ∧ ∀ k, k < w'.heap.size → pa ≠ some ⟨k, 0, none⟩ → w''.heap[k]? = w'.heap[k]?) := fun w' hb => by
    have g := G.out w' hb
    exact anewA_any w' W.heap.size p pa n cap ca L q m cap2 L2 N Tx g.ta g.ra g.rb.reads (Nat.le_trans zWT g.sz) h7 g.tt HRG.out.1 HRG.out.2.1 HRG.out.2.2.1 HRG.out.2.2.2
  have SV3 : Hid (∀ (w' : World), Below wT.heap.size wT w' → w'.cell? ⟨W.heap.size, 0, none⟩ = some (.slice p n cap) ∧ w'.cell? ⟨W.heap.size, 1, none⟩ = some (.slice q m cap2) ∧ w'.cell? ⟨W.heap.size, 2, none⟩ = some (.int .i64 N) ∧ w'.cell? ⟨W.heap.size, 3, none⟩ = some (.string Tx) ∧ w'.cell? ⟨b3, 0, none⟩ = some (.slice pa n ca)) := fun w' hb => ⟨(G.out w' hb).c0, (G.out w' hb).c1, (G.out w' hb).c2, (G.out w' hb).c3, (G.out w' hb).d3⟩
  have SV9 : Hid (∀ (w1 w' : World), Below wT.heap.size wT w1 → (∀ k, k < w1.heap.size → pa ≠ some ⟨k, 0, none⟩ → w'.heap[k]? = w1.heap[k]?) → w'.cell? ⟨W.heap.size, 0, none⟩ = some (.slice p n cap) ∧ w'.cell? ⟨W.heap.size, 1, none⟩ = some (.slice q m cap2) ∧ w'.cell? ⟨W.heap.size, 2, none⟩ = some (.int .i64 N) ∧ w'.cell? ⟨W.heap.size, 3, none⟩ = some (.string Tx) ∧ w'.cell? ⟨b3, 0, none⟩ = some (.slice pa n ca)) := fun w1 w' hb hk => by
    have h := (G.out w1 hb).sz
    have hw : w'.heap[W.heap.size]? = w1.heap[W.heap.size]? := hk _ (by omega) HPA.out.1
    have hb3' : w'.heap[b3]? = w1.heap[b3]? := hk _ (by omega) HPA.out.2
    obtain ⟨v1, v2, v3, v4, v5⟩ := SV3.out w1 hb
    exact ⟨(World.cell?_of_block (a := ⟨W.heap.size, 0, none⟩) hw).trans v1, (World.cell?_of_block (a := ⟨W.heap.size, 1, none⟩) hw).trans v2, (World.cell?_of_block (a := ⟨W.heap.size, 2, none⟩) hw).trans v3, (World.cell?_of_block (a := ⟨W.heap.size, 3, none⟩) hw).trans v4, (World.cell?_of_block (a := ⟨b3, 0, none⟩) hb3').trans v5⟩
  obtain ⟨_, _, _, u7, u10, u13, _⟩ := SV2.out yG hcG
  clear o1 o2 x1 x2 x3 x4 x5 x6 SV2 RI RN LT5 LT6 LT7 LT8 LT9 LT10 LT11 LT12 LT13 hcd hcZ hcG qG qZ
  go_upto_region 28 with go_in
  clear hyG hyZ u7 u10 u13
  go_upto_region 30 with (first
    | (go_at_call 26; refine H26.out.mono ?_; rintro e z1 ⟨rfl, k1⟩; have tz1 : Below wT.heap.size wT z1 := tZ.trans k1.b)
    | (go_at_call 27; refine (H27.out z1 k1).mono ?_; rintro e z2 ⟨rfl, k2⟩; have tz2 : Below wT.heap.size wT z2 := tz1.trans k2; have j3 := (G.out z2 tz2).d3; have j0 := (G.out z2 tz2).c0)
    | (go_at_call 28; have hq := tz3; refine (H28b.out z3 tz3).mono ?_; rintro e z4 ⟨rfl, k4⟩; have tz4 : Below wT.heap.size wT z4 := tz3.trans (k4.mono tz3.size))
    | (go_at_call 28; refine (H28a.out z2 tz2).mono ?_; rintro e z3 ⟨rfl, k3⟩; have tz3 : Below wT.heap.size wT z3 := tz2.trans (k3.mono tz2.size); have j4 := (G.out z3 tz3).d4; have j1 := (G.out z3 tz3).c1)
    | go_in)
  clear j3 j0 j4 j1
  have hcd : Below wT.heap.size wT z4.drew := tz4.drew
  clear tz1 tz2 tz3 tz4 k1 k2 k3 k4 H26 H27 H28a H28b
  go_region_held3 (fun w' => w'.cell? ⟨W.heap.size, 0, none⟩ = some (.slice p n cap) ∧ w'.cell? ⟨W.heap.size, 1, none⟩ = some (.slice q m cap2) ∧ w'.cell? ⟨W.heap.size, 2, none⟩ = some (.int .i64 N) ∧ w'.cell? ⟨W.heap.size, 3, none⟩ = some (.string Tx) ∧ w'.cell? ⟨b3, 0, none⟩ = some (.slice pa n ca)) (first | exact SV3.out _ (by assumption) | assumption)
    (first
    | (go_at_call 29; refine (H29.out _ hcd).mono ?_; rintro e z9 ⟨rfl, k9b, k9⟩; have hS9 := SV9.out z5 z9 hcd k9)
    | (go_at_call 21; refine (sameInts_any _ p13 p22' c13 c22' KA lKA r13 r22').mono ?_; rintro e z5 ⟨rfl, hb8⟩; replace hcd := hcd.trans (hb8.mono hcd.size))
    | (go_at_call 22; refine (H22A.out _ hcd).mono ?_; rintro e z5 ⟨⟨p22', c22', rfl, r22'⟩, hb8⟩; replace hcd := hcd.trans (hb8.mono hcd.size); replace r13 : Hid (IRow z5 p13 c13 KA) := r13.out.next hb8)
    | (go_at_call 13; refine (H13a.out _ hcd).mono ?_; rintro e z5 ⟨⟨p13, c13, rfl, r13'⟩, hb8⟩; replace hcd := hcd.trans (hb8.mono hcd.size); have r13 : Hid (IRow z5 p13 c13 KA) := r13'.out.irow))
  go_wp2
  go_ret
  exact ⟨rfl, (HWT.out.trans (hcd.mono zWT)).trans k9b⟩
end Go.Proofs.YtekgnogjfggnmaaDoor
