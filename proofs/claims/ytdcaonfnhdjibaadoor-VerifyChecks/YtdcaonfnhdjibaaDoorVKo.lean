import Derived.Test.YtdcaonfnhdjibaaDoorVK4
namespace Go.Proofs.YtdcaonfnhdjibaaDoor
open Go.RowKit

/-! Stacks that are written full, and lengthened. -/
set_option maxRecDepth 100000 in
set_option maxHeartbeats 2000000 in
theorem long_any {w : World} {b n : Nat} {q : Option Addr} {xs : List Value} (h : w.ownsRow b 45 1 (.slice q n n) n xs) (hn : n ≤ 400) (hb : b ≤ w.heap.size) :
    Calls Tryd.prog 43 #[.slice q n n] w fun z w' => (∃ q' c', z = .returned (.slice q' (n + 70) c')) ∧ Below w.heap.size w w' := by
  have H : Hid (w.ownsRow b 45 1 (.slice q n n) n xs ∧ b ≤ w.heap.size) := ⟨h, hb⟩
  have HA : Hid (∃ v' w', (Builtin.append_ #[35, 35] 35 #[.slice q n n, .slice (some ⟨w.heap.size, 0, none⟩) 1 1]).run Tryd.prog (w.alloc (.cells #[.int .i64 0] 45)) = .ok v' w' ∧ w'.ownsRow w.heap.size 45 1 v' (n + 1) (xs ++ [.int .i64 0]) ∧ Below w.heap.size w w') := by
    have b1 : Below w.heap.size w (w.alloc (.cells #[.int .i64 0] 45)) := (Below.refl _ w).alloc (Nat.le_refl _) _
    obtain ⟨v', w', r, o, bb⟩ := app_new (P := Tryd.prog) 35 35 _ 8 Tryd.underlying35 infoSt rfl (by decide) (by decide) q n xs (own_next h b1) w.heap.size [.int .i64 0] rfl (by simp [Value.oneCell']) (Full.range (d := []) (Full.new w #[.int .i64 0] 45)) (by omega) (Nat.le_trans hb b1.size)
    exact ⟨v', w', r, own_down o b1.size, below2 b1 bb⟩
  obtain ⟨v1, w1, r1, o1, bb1⟩ := HA.out
  have HO : Hid (w1.ownsRow w.heap.size 45 1 v1 (n + 1) (xs ++ [.int .i64 0]) ∧ Below w.heap.size w w1) := ⟨o1, bb1⟩
  clear h hb HA o1 bb1
  go_enter Tryd.func43, Tryd.ntmps43
  go_wp2_with fail
  go_loopw [0, 3] (fun lv iv wr => ∃ i : Nat, i ≤ 70 ∧ iv = .int .i64 (i : Int) ∧ Hid ((i = 0 ∧ lv = .slice q n n ∧ wr = w) ∨ (0 < i ∧ Below w.heap.size w wr ∧ ∃ xs, wr.ownsRow w.heap.size 45 1 lv (n + i) xs))) (fun _ iv _ => 70 - (intOf iv).toNat)
  case atStart => exact ⟨0, by omega, rfl, .inl ⟨rfl, rfl, rfl⟩⟩
  case round =>
    obtain ⟨i, hi, rfl, HI⟩ := hrel
    by_cases hlt : i < 70
    · have a1 : (i : Int) < 70 := by omega
      rcases HI.out with ⟨h0, h1, h2⟩ | ⟨h0, hb, xs', ho⟩
      · have H0 : Hid (i = 0) := h0
        subst h1 h2
        clear h0
        have HN : Hid ((i + 1 = 0 ∧ v1 = .slice q n n ∧ w1 = wr) ∨ (0 < i + 1 ∧ Below wr.heap.size wr w1 ∧ ∃ xs, w1.ownsRow wr.heap.size 45 1 v1 (n + (i + 1)) xs)) := .inr ⟨Nat.succ_pos _, HO.out.2, _, by rw [H0.out]; exact HO.out.1⟩
        go_wp2_with (first
          | (at_builtin; refine wpList_apr (by rfl) _ _ 35 (by rfl) (v' := v1) (w' := w1) (by exact r1) ?_)
          | fail)
        exact ⟨⟨i + 1, by omega, by go_num, HN⟩, by simp [intOf]; omega⟩
      · have HQ : Hid (wr.ownsRow w.heap.size 45 1 u0 (n + i) xs' ∧ Below w.heap.size w wr) := ⟨ho, hb⟩
        obtain ⟨k, Hk⟩ : ∃ k, Hid (n + i = k) := ⟨_, (rfl : n + i = _)⟩
        rw [Hk.out] at HQ
        have hk : k ≤ 500 := by have := Hk.out; omega
        have HBw : Hid (w.heap.size ≤ wr.heap.size) := hb.size
        clear ho hb r1
        go_wp2_with (first
          | (at_builtin; refine wpList_app 35 45 _ 1 8 Tryd.underlying35 infoSt (by rfl) (by decide) (by decide) (by rfl) _ _ (by rfl) w.heap.size u0 k xs' (by rfl) HQ.out.1 #[.int .i64 0] (by rfl) (by intro u hu; simp at hu; subst hu; rfl) (by rfl) (by omega) HBw.out ?_; intro v' w3 ho3 hg3)
          | fail)
        have HN : Hid ((i + 1 = 0 ∧ v' = .slice q n n ∧ w3 = w) ∨ (0 < i + 1 ∧ Below w.heap.size w w3 ∧ ∃ xs, w3.ownsRow w.heap.size 45 1 v' (n + (i + 1)) xs)) := by
          have b1 : Below wr.heap.size wr (wr.alloc (.cells #[.int .i64 0] 45)) := (Below.refl _ wr).alloc (Nat.le_refl _) _
          have hbb := below2 HQ.out.2 b1
          refine .inr ⟨Nat.succ_pos _, hbb.grown hg3.out.1 hbb.size fun k hk => (HQ.out.1.lt k hk).1, xs' ++ #[Value.int .i64 0].toList, ?_⟩
          rw [show n + (i + 1) = k + 1 by have := Hk.out; omega]
          exact ho3.out
        exact ⟨⟨i + 1, by omega, by go_num, HN⟩, by simp [intOf]; omega⟩
    · obtain rfl : i = 70 := by omega
      have i1 : ¬ (((70 : Nat) : Int) < 70) := by omega
      rcases HI.out with ⟨h0, h1, h2⟩ | ⟨h0, hb, xs', ho⟩
      · cases h0
      · obtain ⟨q', c', rfl, -⟩ := own_slice ho
        have HQ : Hid (Below w.heap.size w wr) := hb
        clear ho hb
        go_wp2
        go_ret
        exact ⟨⟨q', c', rfl⟩, HQ.out⟩
/-- One number of a stack is written. -/
theorem LsM.put {w : World} {b : Nat} {v : Value} {K : Kn} {n : Nat} {vs : List Value} (h : LsM w b v K n vs) (hn : K.length = n) {i k : Nat} (hi : i < n) {s : List Int} (hs : K.getD i none = some s) (hk : k < s.length) (x : Int) :
    ∃ g cap gx, v = .slice (some ⟨g, 0, none⟩) n cap ∧ w.cell? ⟨g, i, none⟩ = some (.slice (some ⟨gx, 0, none⟩) s.length s.length) ∧ Full w gx 45 (sv s) ∧ b ≤ gx ∧ (Value.slice (some ⟨gx, 0, none⟩) s.length s.length) ∈ vs ∧ LsM (w.setCell ⟨gx, k, none⟩ (.int .i64 x)) b v (K.set i (some (s.set k x))) n vs := by
  obtain ⟨g, cap, y, hv, hc, hat⟩ := ls_at h i hi
  rw [hs] at hat
  obtain ⟨gx, hb, rfl, hf⟩ := hat
  have hl : vs.length = n := by have := h.own.1; omega
  have hxi : vs[i]? = some (.slice (some ⟨gx, 0, none⟩) s.length s.length) := by
    obtain ⟨q', cap', e', -, hr⟩ := own_slice h.own
    rw [hv] at e'
    cases e'
    obtain ⟨g', e2, hr2⟩ := hr (by omega)
    cases e2
    obtain ⟨y, hy⟩ : ∃ y, vs[i]? = some y := ⟨_, List.getElem?_eq_getElem (by omega)⟩
    have := hr2 i y hy
    rw [Nat.zero_add, hc] at this
    rw [hy, ← this]
  refine ⟨g, cap, gx, hv, hc, hf, hb, List.mem_of_getElem? hxi, own_same h.own fun g' hg' => set_heap (a := ⟨gx, k, none⟩) fun e => own_ne h.own (b := gx) (t := 45) (m := 0) ⟨_, hf, Nat.zero_le _⟩ (by decide) (by rw [hg']; exact congrArg some e), fun j z hz => ?_, h.sep⟩
  by_cases e : j = i
  · subst e
    rw [hxi] at hz
    cases hz
    have hK : (K.set j (some (s.set k x))).getD j none = some (s.set k x) := by rw [List.getD_eq_getElem?_getD, List.getElem?_set_self (by omega)]; rfl
    rw [hK]
    refine ⟨gx, hb, by rw [List.length_set], ?_⟩
    have hf2 : Full w gx 45 (sv (s.take k) ++ (.int .i64 (s[k]) :: sv (s.drop (k + 1)))) := by
      have : sv s = sv (s.take k) ++ (.int .i64 (s[k]) :: sv (s.drop (k + 1))) := by
        unfold sv
        rw [← List.map_cons, ← List.map_append, ← List.drop_eq_getElem_cons hk, List.take_append_drop]
      rw [← this]
      exact hf
    have := Full.put1 hf2 (.int .i64 x)
    rw [sv_len, List.length_take, Nat.min_eq_left (by omega)] at this
    have e2 : sv (s.set k x) = sv (s.take k) ++ (.int .i64 x :: sv (s.drop (k + 1))) := by
      unfold sv
      rw [List.set_eq_take_append_cons_drop, if_pos hk, List.map_append, List.map_cons]
    rw [e2]
    exact this
  · have hK : (K.set i (some (s.set k x))).getD j none = K.getD j none := by rw [List.getD_eq_getElem?_getD, List.getElem?_set_ne (Ne.symm e), ← List.getD_eq_getElem?_getD]
    rw [hK]
    have hat := h.at_ j z hz
    cases hkj : K.getD j none with
    | none => rw [hkj] at hat; exact hat
    | some t =>
      rw [hkj] at hat
      obtain ⟨gz, hbz, rfl, hfz⟩ := hat
      refine ⟨gz, hbz, rfl, hfz.other1 fun q => ?_⟩
      have q : gz = gx := q
      subst q
      rcases Nat.lt_or_gt_of_ne e with h1 | h1
      · exact h.sep j i _ _ gz h1 hz hxi rfl rfl
      · exact h.sep i j _ _ gz h1 hxi hz rfl rfl
def dfV (i k : Nat) : Int := -1000 * (i : Int) - (k : Int)
/-- Between two rounds. -/
def DfI (w wr : World) (b N : Nat) (v : Value) (n i m : Nat) (L : Nat → Prop) : Prop := Kp (fun g => b ≤ g ∧ g < N) w wr ∧ ∃ K vs, (∀ x ∈ vs, ∀ g, Value.ownBlock x = some g → g < N) ∧ K.length = n ∧ LsM wr b v K n vs ∧ (∀ j, (stkAt K j).length ≤ 400) ∧ (∀ j k, j < i → k < (stkAt K j).length → (stkAt K j).getD k 0 = dfV j k) ∧ (∀ k, k < m → k < (stkAt K i).length → (stkAt K i).getD k 0 = dfV i k) ∧ L (stkAt K i).length
theorem DfI.up {w wr : World} {b N : Nat} {v : Value} {n i m : Nat} {l : Nat} (h : DfI w wr b N v n i m (fun x => x = l)) (hm : l ≤ m) : DfI w wr b N v n (i + 1) 0 (fun _ => True) := by
  obtain ⟨hb, K, vs, hN, h1, h2, h3, h4, h5, h6⟩ := h
  refine ⟨hb, K, vs, hN, h1, h2, h3, fun j k hj hk => ?_, fun k hk => absurd hk (Nat.not_lt_zero _), trivial⟩
  rcases Nat.lt_succ_iff_lt_or_eq.1 hj with q | rfl
  · exact h4 j k q hk
  · exact h5 k (by omega) hk
theorem st_set {K : Kn} {i : Nat} {s : List Int} (hi : i < K.length) (j : Nat) : stkAt (K.set i (some s)) j = if j = i then s else stkAt K j := by
  unfold stkAt
  by_cases e : j = i
  · subst e
    rw [if_pos rfl, List.getD_eq_getElem?_getD, List.getElem?_set_self hi]
    rfl
  · rw [if_neg e, List.getD_eq_getElem?_getD, List.getElem?_set_ne (Ne.symm e), ← List.getD_eq_getElem?_getD]
theorem DfI.put {w wr : World} {b N : Nat} {v : Value} {n i m l : Nat} (h : DfI w wr b N v n i m (fun x => x = l)) (hi : i < n) (hm : m < l) :
    ∃ g cap gx, v = .slice (some ⟨g, 0, none⟩) n cap ∧ wr.cell? ⟨g, i, none⟩ = some (.slice (some ⟨gx, 0, none⟩) l l) ∧ (∃ z, wr.cell? ⟨gx, m, none⟩ = some (.int .i64 z)) ∧ wr.frozen? ⟨gx, m, none⟩ = false ∧ DfI w (wr.setCell ⟨gx, m, none⟩ (.int .i64 (dfV i m))) b N v n i (m + 1) (fun x => x = l) := by
  obtain ⟨hb, K, vs, hN, h1, h2, h3, h4, h5, h6⟩ := h
  have h6 : (stkAt K i).length = l := h6
  cases hs : K.getD i none with
  | none => unfold stkAt at h6; rw [hs] at h6; simp at h6; omega
  | some s =>
    have hsi : stkAt K i = s := by unfold stkAt; rw [hs]; rfl
    rw [hsi] at h6
    subst h6
    obtain ⟨g, cap, gx, hv, hc, hf, hbx, hmem, hl⟩ := h2.put h1 hi hs hm (dfV i m)
    obtain ⟨c1, f1⟩ := hf.cell m (.int .i64 (s.getD m 0)) (sv_get hm)
    refine ⟨g, cap, gx, hv, hc, ⟨_, c1⟩, f1, hb.setCell (p := ⟨gx, m, none⟩) (.inl ⟨hbx, hN _ hmem gx rfl⟩) _, K.set i (some (s.set m (dfV i m))), vs, hN, by rw [List.length_set]; exact h1, hl, fun j => ?_, fun j k hj hk => ?_, fun k hk hk2 => ?_, ?_⟩
    · rw [st_set (by omega)]
      split
      · rw [List.length_set, ← hsi]; exact h3 i
      · exact h3 j
    · rw [st_set (by omega), if_neg (by omega)] at hk ⊢
      exact h4 j k hj hk
    · rw [st_set (by omega), if_pos rfl] at hk2 ⊢
      rw [List.length_set] at hk2
      rw [List.getD_eq_getElem?_getD]
      rcases Nat.lt_succ_iff_lt_or_eq.1 hk with q | rfl
      · rw [List.getElem?_set_ne (by omega), ← List.getD_eq_getElem?_getD, ← hsi]
        exact h5 k q (by rw [hsi]; exact hk2)
      · rw [List.getElem?_set_self hk2]; rfl
    · show (stkAt _ i).length = _
      rw [st_set (by omega), if_pos rfl, List.length_set]
/-- What lies at a place. -/
theorem DfI.at_ {w wr : World} {b N : Nat} {v : Value} {n i m : Nat} {L : Nat → Prop} (h : DfI w wr b N v n i m L) (j : Nat) (hj : j < n) : ∃ g cap q l, v = .slice (some ⟨g, 0, none⟩) n cap ∧ wr.cell? ⟨g, j, none⟩ = some (.slice q l l) ∧ l ≤ 400 ∧ (∃ xs, wr.ownsRow b 45 1 (.slice q l l) l xs) ∧ (j = i → L l) ∧ (j < i → ∀ k, k < l → ∃ gx, q = some ⟨gx, 0, none⟩ ∧ wr.cell? ⟨gx, k, none⟩ = some (.int .i64 (dfV j k))) := by
  obtain ⟨hb, K, vs, hN, h1, h2, h3, h4, h5, h6⟩ := h
  obtain ⟨g, cap, y, hv, hc, hat⟩ := ls_at h2 j hj
  cases hs : K.getD j none with
  | none =>
    rw [hs] at hat
    have hat : y = _ := hat
    subst hat
    have hz : (stkAt K j).length = 0 := by unfold stkAt; rw [hs]; rfl
    exact ⟨g, cap, none, 0, hv, hc, by omega, ⟨[], World.ownsRow_nil _ _ _ _⟩, fun e => by subst e; rw [hz] at h6; exact h6, fun _ k hk => by omega⟩
  | some s =>
    rw [hs] at hat
    obtain ⟨gx, hbx, rfl, hf⟩ := hat
    have hsj : stkAt K j = s := by unfold stkAt; rw [hs]; rfl
    have h3j := h3 j
    rw [hsj] at h3j
    refine ⟨g, cap, some ⟨gx, 0, none⟩, s.length, hv, hc, h3j, ⟨sv s, by rw [sv_len, Nat.mul_one], .inr ⟨gx, s.length, (sv s).toArray, rfl, hbx, hf, Nat.le_refl _, by unfold maxLen; omega, by simp [sv_len], by rw [Nat.mul_one, List.take_of_length_le (by simp [sv_len])]⟩⟩, fun e => by subst e; rw [hsj] at h6; exact h6, fun hj2 k hk => ⟨gx, rfl, ?_⟩⟩
    have := h4 j k hj2 (by rw [hsj]; exact hk)
    rw [hsj] at this
    rw [← this]
    exact (hf.cell k _ (sv_get hk)).1
theorem DfI.next {w wr w' : World} {b N : Nat} {v : Value} {n i m : Nat} {L : Nat → Prop} (h : DfI w wr b N v n i m L) (k : Below wr.heap.size wr w') : DfI w w' b N v n i m L := by
  obtain ⟨hb, K, vs, h0, h1, h2, h3⟩ := h
  exact ⟨hb.next k, K, vs, h0, h1, h2.next k, h3⟩
theorem df_wrap (i k : Nat) (hi : i ≤ 60000) (hk : k ≤ 400) : IntKind.i64.wrap (-1000 * (i : Int)) = -1000 * (i : Int) ∧ IntKind.i64.wrap (-1000 * (i : Int) - (k : Int)) = dfV i k := by
  unfold dfV
  constructor <;> (rw [IntKind.wrap_i64]; omega)
set_option maxRecDepth 100000 in
set_option maxHeartbeats 4000000 in
theorem defaced_any {w : World} {b : Nat} {v : Value} {K : Kn} {vs : List Value} (h : LsM w b v K K.length vs) (hK : All SOk K) (hl : K.length ≤ 60000) (hb : b ≤ w.heap.size) (N : Nat) (hN : ∀ x ∈ vs, ∀ g, Value.ownBlock x = some g → g < N) :
    Calls Tryd.prog 23 #[v] w fun z w' => z = .returned (.bool true) ∧ Kp (fun g => b ≤ g ∧ g < N) w w' := by
  obtain ⟨n, Hn⟩ : ∃ n, Hid (K.length = n) := ⟨_, (rfl : K.length = _)⟩
  have HI0 : Hid (DfI w w b N v n 0 0 (fun _ => True)) := ⟨Kp.refl _ _, K, vs, hN, Hn.out, by rw [← Hn.out]; exact h, all_len hK, fun j k hj => absurd hj (Nat.not_lt_zero _), fun k hk => absurd hk (Nat.not_lt_zero _), trivial⟩
  have HB : Hid (b ≤ w.heap.size) := hb
  have hn : n ≤ 60000 := by rw [← Hn.out]; exact hl
  have hnI : (n : Int) ≤ 60000 := by omega
  obtain ⟨q, cap, rfl, -⟩ := own_slice h.own
  rw [Hn.out] at HI0 ⊢
  clear h hK hl hb hN
  go_enter Tryd.func23, Tryd.ntmps23
  go_wp2_with fail
  go_loopw [11] (fun iv wr => ∃ i : Nat, i ≤ n ∧ iv = .int .i64 (i : Int) ∧ Hid (DfI w wr b N (.slice q n cap) n i 0 (fun _ => True))) (fun iv _ => n - (intOf iv).toNat)
  case atStart => exact ⟨0, Nat.zero_le _, rfl, HI0⟩
  case round =>
    obtain ⟨i, hi, rfl, HI⟩ := hrel
    obtain ⟨wo, rfl⟩ : ∃ wo, wo = wr := ⟨wr, rfl⟩
    clear HI0
    by_cases hlt : i < n
    · have a0 : (0 : Int) ≤ (i : Int) := by omega
      have a1 : (i : Int) < (n : Int) := by omega
      obtain ⟨g, cp, q1, l, hv, hc, hl4, -, -, -⟩ := HI.out.at_ i hlt
      cases hv
      have hl4I : (l : Int) ≤ 400 := by omega
      have HJ0 : Hid (DfI w wo b N (.slice (some ⟨g, 0, none⟩) n cap) n i 0 (fun x => x = l)) := by
        obtain ⟨hb, K2, vs2, hN2, h1, h2, h3, h4, h5, -⟩ := HI.out
        refine ⟨hb, K2, vs2, hN2, h1, h2, h3, h4, h5, ?_⟩
        obtain ⟨g', cap', y, hv, hc', hat⟩ := ls_at h2 i hlt
        cases hv
        rw [hc] at hc'
        obtain rfl := Option.some.inj hc'
        show (stkAt K2 i).length = l
        unfold stkAt
        cases hs : K2.getD i none with
        | none => rw [hs] at hat; cases (show _ = _ from hat); rfl
        | some s => rw [hs] at hat; obtain ⟨gx, -, e, -⟩ := hat; cases e; rfl
      go_wp2_with fail
      clear hc
      go_loopw [19] (fun iv wr => ∃ m : Nat, m ≤ l ∧ iv = .int .i64 (m : Int) ∧ Hid (DfI w wr b N (.slice (some ⟨g, 0, none⟩) n cap) n i m (fun x => x = l))) (fun iv _ => l - (intOf iv).toNat)
      case atStart => exact ⟨0, Nat.zero_le _, rfl, HJ0⟩
      case round =>
        obtain ⟨m, hm, rfl, HJ⟩ := hrel
        clear HJ0
        by_cases hml : m < l
        · have m0 : (0 : Int) ≤ (m : Int) := by omega
          have m1 : (m : Int) < (l : Int) := by omega
          obtain ⟨g', cap', gx, hv, hc, ⟨z, hz⟩, hfz, hN⟩ := HJ.out.put hlt hml
          cases hv
          obtain ⟨w1, w2⟩ := df_wrap i m (by omega) (by omega)
          obtain ⟨M, HM⟩ : ∃ M, Hid (-1000 * (i : Int) = M) := ⟨_, (rfl : -1000 * (i : Int) = _)⟩
          obtain ⟨E, HE⟩ : ∃ E, Hid (dfV i m = E) := ⟨_, (rfl : dfV i m = _)⟩
          rw [HM.out] at w1
          rw [HM.out, HE.out] at w2
          rw [HE.out] at hN
          rw [← HM.out] at w1
          have HN : Hid (DfI w (wr.setCell ⟨gx, m, none⟩ (.int .i64 E)) b N (.slice (some ⟨g, 0, none⟩) n cap) n i (m + 1) (fun x => x = l)) := hN
          clear hN
          rw [HM.out] at w1
          have w1' : IntKind.i64.wrap (-1000 * (i : Int)) = M := by rw [HM.out]; exact w1
          clear w1
          go_wp2
          exact ⟨⟨m + 1, by omega, by go_num, HN⟩, by simp [intOf]; omega⟩
        · have m1 : ¬ ((m : Int) < (l : Int)) := by omega
          have HN : Hid (DfI w wr b N (.slice (some ⟨g, 0, none⟩) n cap) n (i + 1) 0 (fun _ => True)) := HJ.out.up (by omega)
          go_wp2
          exact ⟨⟨i + 1, by omega, by go_num, HN⟩, by simp [intOf]; omega⟩
    · obtain rfl : i = n := by omega
      have i1 : ¬ ((i : Int) < (i : Int)) := by omega
      have HS0 : Hid (DfI w wo b N (.slice q i cap) i i 0 (fun _ => True)) := HI.out
      go_wp2_with fail
      go_loopw [5, 36] (fun tv iv wr => ∃ j t : Nat, j ≤ i ∧ t ≤ 470 * j ∧ tv = .int .i64 (t : Int) ∧ iv = .int .i64 (j : Int) ∧ Hid (DfI w wr b N (.slice q i cap) i i 0 (fun _ => True))) (fun _ iv _ => i - (intOf iv).toNat)
      case atStart => exact ⟨0, 0, Nat.zero_le _, Nat.le_refl _, rfl, rfl, HS0⟩
      case round =>
        obtain ⟨j, t, hj, ht, rfl, rfl, HS⟩ := hrel
        clear HS0
        by_cases hjl : j < i
        · have a0 : (0 : Int) ≤ (j : Int) := by omega
          have a1 : (j : Int) < (i : Int) := by omega
          obtain ⟨g, cp, q1, l, hv, hc, hl4, ⟨xs, hox⟩, -, -⟩ := HS.out.at_ j hjl
          cases hv
          have cL := long_any hox hl4 (Nat.le_trans HB.out HS.out.1.size)
          obtain ⟨l7, Hl7⟩ : ∃ l7, Hid (l + 70 = l7) := ⟨_, (rfl : l + 70 = _)⟩
          rw [Hl7.out] at cL
          have hl7 : l7 ≤ 470 := by have := Hl7.out; omega
          have hw : IntKind.i64.wrap ((t : Int) + (l7 : Int)) = ((t + l7 : Nat) : Int) := by rw [IntKind.wrap_i64]; omega
          obtain ⟨tt, Htt⟩ : ∃ tt, Hid (t + l7 = tt) := ⟨_, (rfl : t + l7 = _)⟩
          rw [Htt.out] at hw
          clear hox
          go_wp2_with fail
          refine cL.mono ?_
          rintro z W2 ⟨⟨q', c', rfl⟩, b2⟩
          have HN : Hid (DfI w W2 b N (.slice (some ⟨g, 0, none⟩) i cap) i i 0 (fun _ => True)) := HS.out.next b2
          clear cL b2 hc
          go_wp2
          exact ⟨⟨j + 1, tt, by omega, by have := Htt.out; omega, rfl, by go_num, HN⟩, by simp [intOf]; omega⟩
        · obtain rfl : j = i := by omega
          have j1 : ¬ ((j : Int) < (j : Int)) := by omega
          obtain ⟨wp, Hwp⟩ : ∃ wp, Hid (wp = wr) := ⟨wr, (rfl : wr = wr)⟩
          have HS1 : Hid (DfI w wr b N (.slice q j cap) j j 0 (fun _ => True)) := HS.out
          go_wp2_with fail
          go_loopw [50] (fun iv wr2 => ∃ k : Nat, k ≤ j ∧ iv = .int .i64 (k : Int) ∧ Hid (wr2 = wp)) (fun iv _ => j - (intOf iv).toNat)
          case atStart => exact ⟨0, Nat.zero_le _, rfl, (Hwp.out.symm : _)⟩
          case round =>
            obtain ⟨k, hk, rfl, HQ⟩ := hrel
            have HS2 : Hid (DfI w wr b N (.slice q j cap) j j 0 (fun _ => True)) := by show DfI w wr b N _ _ _ _ _; rw [HQ.out, Hwp.out]; exact HS1.out
            obtain ⟨wy, rfl⟩ : ∃ wy, wy = wr := ⟨wr, rfl⟩
            by_cases hkl : k < j
            · have a0 : (0 : Int) ≤ (k : Int) := by omega
              have a1 : (k : Int) < (j : Int) := by omega
              obtain ⟨g, cp, q1, l, hv, hc, hl4, -, -, hat⟩ := HS2.out.at_ k hkl
              cases hv
              have hl4I : (l : Int) ≤ 400 := by omega
              have HAt : Hid (∀ m, m < l → ∃ gx, q1 = some ⟨gx, 0, none⟩ ∧ wy.cell? ⟨gx, m, none⟩ = some (.int .i64 (dfV k m))) := hat hkl
              clear hat
              go_wp2_with fail
              go_loopw [58] (fun iv wr3 => ∃ m : Nat, m ≤ l ∧ iv = .int .i64 (m : Int) ∧ wr3 = wy) (fun iv _ => l - (intOf iv).toNat)
              case atStart => exact ⟨0, Nat.zero_le _, rfl, rfl⟩
              case round =>
                obtain ⟨m, hm, rfl, rfl⟩ := hrel
                by_cases hml : m < l
                · have m0 : (0 : Int) ≤ (m : Int) := by omega
                  have m1 : (m : Int) < (l : Int) := by omega
                  obtain ⟨gx, rfl, hz⟩ := HAt.out m hml
                  obtain ⟨w1, w2⟩ := df_wrap k m (by omega) (by omega)
                  obtain ⟨M, HM⟩ : ∃ M, Hid (-1000 * (k : Int) = M) := ⟨_, (rfl : -1000 * (k : Int) = _)⟩
                  obtain ⟨E, HE⟩ : ∃ E, Hid (dfV k m = E) := ⟨_, (rfl : dfV k m = _)⟩
                  rw [HM.out, HE.out] at w2
                  rw [HE.out] at hz
                  have w1' : IntKind.i64.wrap (-1000 * (k : Int)) = M := by rw [← HM.out]; exact w1
                  clear w1
                  go_wp2
                  exact ⟨⟨m + 1, by omega, by go_num, by first | trivial | rfl⟩, by simp [intOf]; omega⟩
                · have m1 : ¬ ((m : Int) < (l : Int)) := by omega
                  clear hc
                  go_wp2
                  exact ⟨⟨k + 1, by omega, by go_num, HQ⟩, by simp [intOf]; omega⟩
            · obtain rfl : k = j := by omega
              have k1 : ¬ ((k : Int) < (k : Int)) := by omega
              have HBE : Hid (Kp (fun g => b ≤ g ∧ g < N) w wy) := HS2.out.1
              by_cases ht0 : t = 0
              · have t1 : ((t : Int) == 0) = true := by rw [ht0]; rfl
                have t2 : (t : Int) = 0 := by omega
                clear ht0
                go_wp2
                go_ret
                exact ⟨rfl, HBE.out⟩
              · have t1 : ((t : Int) == 0) = false := by rw [beq_eq_false_iff_ne]; omega
                have t2 : ¬ ((t : Int) = 0) := by omega
                have t3 : (0 : Int) < (k : Int) := by omega
                have Hk0 : Hid (decide (0 < k) = true) := decide_eq_true (by omega : 0 < k)
                go_wp2
                go_ret
                first
                | exact ⟨rfl, HBE.out⟩
                | exact ⟨congrArg (fun z => Ending.returned (Value.bool z)) Hk0.out, HBE.out⟩
end Go.Proofs.YtdcaonfnhdjibaaDoor
