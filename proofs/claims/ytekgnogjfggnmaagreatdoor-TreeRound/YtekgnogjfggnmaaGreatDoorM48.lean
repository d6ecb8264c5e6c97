import Derived.Test.YtekgnogjfggnmaaGreatDoorM47
import Derived.Test.YtekgnogjfggnmaaGreatDoorM39
import Derived.Test.YtekgnogjfggnmaaGreatDoorM30
import Derived.Test.YtekgnogjfggnmaaGreatDoorM20
import Derived.Test.YtekgnogjfggnmaaGreatDoorM18
namespace Go.Proofs.YtekgnogjfggnmaaGreatDoor
open Go.RowKit Go.Shelf

/-! TreeRound. -/

theorem deep_any (w : World) (p : Option Addr) (n cap : Nat) (L : List Nd) (h : Reads w p n L) :
    Calls Tryz.prog 5 #[.agg #[.slice p n cap]] w fun e w' => AnyB e ∧ Below w.heap.size w w' := by
  obtain ⟨hf, rfl, hr⟩ := h
  by_cases hn : L.length ≤ 65536
  · exact deep_small w p L.length cap hn
  · obtain ⟨g, o, rfl, hl⟩ := hr (fun e => by rw [e] at hn; simp at hn)
    exact deep_big w g o cap L hf.len (by omega) hl
theorem one_tree : treeS nameS typeS [oneNd] = true := by decide
theorem rows_fine : ∀ {f : Nat} {t : List UInt8} {ps : List (Nd × Nat)}, t.length ≤ 4194304 → rowsS f t = some ps → ps.length ≤ t.length ∧ ∀ p ∈ ps, FineN p.1
  | f, [], ps, _, h => by
    have : ps = [] := by cases f <;> exact (Option.some.inj h).symm
    subst this
    exact ⟨Nat.le_refl _, fun p hp => by simp at hp⟩
  | 0, c :: t, ps, _, h => by cases h
  | f + 1, c :: t, ps, hl, h => by
    unfold rowsS at h
    obtain ⟨⟨a, b⟩, h1, h⟩ := Option.bind_eq_some_iff.1 h
    obtain ⟨⟨x, d⟩, h2, h⟩ := Option.bind_eq_some_iff.1 h
    obtain ⟨qs, h3, rfl⟩ := Option.map_eq_some_iff.1 h
    simp only at h2 h3
    have hc := cut_len h1
    obtain ⟨i1, i2⟩ := rows_fine (by omega) h3
    refine ⟨by rw [List.length_cons]; omega, fun p hp => ?_⟩
    rcases List.mem_cons.1 hp with rfl | hp
    · exact line_fine (by omega) h2
    · exact i2 p hp
theorem read_fine {t : List UInt8} {L : List Nd} (h : readS t = some L) : Fine L := by
  unfold readS at h
  split at h
  · cases h
  · obtain ⟨ps, h1, h⟩ := Option.bind_eq_some_iff.1 h
    split at h
    · cases h
      obtain ⟨i1, i2⟩ := rows_fine (by omega) h1
      exact mkL_fine (by omega) i2
    · cases h
theorem reads_own {w : World} {b : Nat} {p : Option Addr} {c : Nat} {L : List Nd} (h : w.ownsRow b 42 9 (.slice p L.length c) L.length (flat L)) (hf : Fine L) : Reads w p L.length L := by
  refine ⟨hf, rfl, fun hne => ?_⟩
  rcases h.2 with ⟨_, hn⟩ | ⟨g, cap, cur, hv, _⟩
  · exact absurd (List.length_eq_zero_iff.1 hn) hne
  · cases hv
    exact ⟨g, 0, rfl, (lay_of_own h).2.1⟩

/-- What Load answers, said with the slice. -/
theorem load_no (s : ByteArray) (w : World) (q : Addr) (h : RTab w 169 (.pointer (some q))) (hk : KwAt w) (m : Int) (hm : w.cell? ⟨4, 0, none⟩ = some (.int .i64 m)) (hR : readS s.data.toList = none) :
    Calls Tryz.prog 9 #[.string s] w fun e w' => e = .returned (.tuple #[.agg #[.slice none 0 0], .int .i64 31]) ∧ Below w.heap.size w w' := by
  refine (load_any s w q h hk m hm).mono ?_
  rintro e w' ⟨he, hb⟩
  rw [hR] at he
  exact ⟨he.out, hb⟩
theorem load_yes (s : ByteArray) (w : World) (q : Addr) (h : RTab w 169 (.pointer (some q))) (hk : KwAt w) (m : Int) (hm : w.cell? ⟨4, 0, none⟩ = some (.int .i64 m)) (L : List Nd) (hR : readS s.data.toList = some L) :
    Calls Tryz.prog 9 #[.string s] w fun e w' => (∃ p c, e = .returned (.tuple #[.agg #[.slice p L.length c], .int .i64 0]) ∧ Hid (w'.ownsRow w.heap.size 42 9 (.slice p L.length c) L.length (flat L))) ∧ Below w.heap.size w w' := by
  refine (load_any s w q h hk m hm).mono ?_
  rintro e w' ⟨he, hb⟩
  rw [hR] at he
  obtain ⟨v, rfl, ho⟩ := he.out
  obtain ⟨p, c, rfl⟩ := own_slice ho
  exact ⟨⟨p, c, rfl, ho⟩, hb⟩

/-- What Dump and Valid tell of one tree: the text, the code, Valid's answer. -/
def Tells (L : List Nd) (s : ByteArray) (e cv : Int) : Prop :=
  (treeS nameS typeS L = true ∧ (dmp L L.length).length ≤ 4194304 ∧ s = bk (dmp L L.length) ∧ e = 0 ∧ cv = 0) ∨ (500 ≤ L.length ∧ s = bk [] ∧ e = 2 ∧ cv = 0) ∨ (s = bk [] ∧ e = 30 ∧ cv = 30)
theorem tells (L : List Nd) (hr : Rng L) (hp : RngP L) : Tells L (bk (dumpS L).1) (dumpS L).2 (if treeS nameS typeS L then 0 else 30) := by
  rcases dump_tells L hr hp with ⟨h1, h2, h3⟩ | ⟨h1, h2, h3⟩ | ⟨h1, h3⟩
  · rw [h1, h3]; exact Or.inl ⟨h1, h2, rfl, rfl, rfl⟩
  · rw [h1, h3]; exact Or.inr (Or.inl ⟨h2, rfl, rfl, rfl⟩)
  · rw [h1, h3]; exact Or.inr (Or.inr ⟨rfl, rfl, rfl⟩)

set_option maxRecDepth 100000 in
set_option maxHeartbeats 20000000 in
theorem treeRound_any (W : World) (p : Option Addr) (n cap : Nat) (L : List Nd) (q : Option Addr) (m cap2 : Nat) (L2 : List Nd) (N : Int) (Tx : ByteArray) (hA : Arg W p n cap L) (hB : Arg W q m cap2 L2) (qa : Addr) (hT : RTab W 169 (.pointer (some qa))) (hk : KwAt W) (mx : Int) (hm : W.cell? ⟨4, 0, none⟩ = some (.int .i64 mx)) (hr : Rng L) (hp : RngP L) (hr2 : Rng L2) (hp2 : RngP L2) :
    Calls Tryz.prog 3 #[.agg #[.slice p n cap, .slice q m cap2, .int .i64 N, .string Tx]] W fun e W' => e = .returned (.bool true) ∧ Below W.heap.size W W' := by
  have h15 := hT.size
  obtain ⟨W1, hW1⟩ : ∃ W1, W.alloc (.cells #[.slice p n cap, .slice q m cap2, .int .i64 N, .string Tx] 26) = W1 := ⟨_, rfl⟩
  have B1 : Hid (Below W.heap.size W W1) := by rw [← hW1]; exact (Below.refl _ W).alloc (Nat.le_refl _) _
  have z1 : W1.heap.size = W.heap.size + 1 := by rw [← hW1]; simp
  have HC : Hid (∀ (w' : World) (j : Nat) (v : Value), Below W1.heap.size W1 w' → (#[.slice p n cap, .slice q m cap2, .int .i64 N, .string Tx] : Array Value)[j]? = some v → w'.cell? ⟨W.heap.size, j, none⟩ = some v) := fun w' j v hb hv => by
    rw [hb.cell (p := ⟨W.heap.size, j, none⟩) (by show W.heap.size < _; omega), ← hW1]; exact cell_new _ _ _ _ _ hv
  have HBW : Hid (∀ w', Below W1.heap.size W1 w' → Below W.heap.size W w') := fun w' hb => B1.out.trans (hb.mono B1.out.size)
  have HX : Hid (∀ w', Below W1.heap.size W1 w' → Arg w' p n cap L ∧ Arg w' q m cap2 L2 ∧ RTab w' 169 (.pointer (some qa)) ∧ KwAt w' ∧ w'.cell? ⟨4, 0, none⟩ = some (.int .i64 mx)) := fun w' hb =>
    ⟨(hA.next B1.out).next hb, (hB.next B1.out).next hb, (hT.next B1.out).next hb, (hk.next B1.out).next hb, ((HBW.out w' hb).cell (p := ⟨4, 0, none⟩) (by show 4 < W.heap.size; omega)).trans hm⟩
  have HFA : Hid (Fine L ∧ L.length = n ∧ Fine L2 ∧ L2.length = m) := ⟨hA.reads.1, hA.reads.2.1, hB.reads.1, hB.reads.2.1⟩
  have HRG : Hid (Rng L ∧ RngP L ∧ Rng L2 ∧ RngP L2) := ⟨hr, hp, hr2, hp2⟩
  have H5A : Hid (∀ w', Below W1.heap.size W1 w' → Calls Tryz.prog 5 #[.agg #[.slice p n cap]] w' fun e w'' => AnyB e ∧ Below w'.heap.size w' w'') := fun w' hb => deep_any w' p n cap L (HX.out w' hb).1.reads
  have H5B : Hid (∀ w', Below W1.heap.size W1 w' → Calls Tryz.prog 5 #[.agg #[.slice q m cap2]] w' fun e w'' => AnyB e ∧ Below w'.heap.size w' w'') := fun w' hb => deep_any w' q m cap2 L2 (HX.out w' hb).2.1.reads
  have H7A : Hid (∀ w', Below W1.heap.size W1 w' → Calls Tryz.prog 7 #[.agg #[.slice p n cap]] w' fun e w'' => (∃ pa ca, e = .returned (.agg #[.slice pa n ca]) ∧ Hid (Reads w'' pa n L)) ∧ Below w'.heap.size w' w'') := fun w' hb => by
    refine (twin_any w' p n cap L (HX.out w' hb).1).mono ?_
    rintro e w'' ⟨⟨pa, ca, rfl, ht⟩, hb2⟩
    refine ⟨⟨pa, ca, rfl, ?_⟩, hb2⟩
    have := ht.out.reads HFA.out.1
    rw [HFA.out.2.1] at this
    exact this
  have H7B : Hid (∀ w', Below W1.heap.size W1 w' → Calls Tryz.prog 7 #[.agg #[.slice q m cap2]] w' fun e w'' => (∃ pa ca, e = .returned (.agg #[.slice pa m ca]) ∧ Hid (Reads w'' pa m L2)) ∧ Below w'.heap.size w' w'') := fun w' hb => by
    refine (twin_any w' q m cap2 L2 (HX.out w' hb).2.1).mono ?_
    rintro e w'' ⟨⟨pa, ca, rfl, ht⟩, hb2⟩
    refine ⟨⟨pa, ca, rfl, ?_⟩, hb2⟩
    have := ht.out.reads HFA.out.2.2.1
    rw [HFA.out.2.2.2] at this
    exact this
  obtain ⟨s1, hs1⟩ : ∃ s1, bk (dumpS L).1 = s1 := ⟨_, rfl⟩
  obtain ⟨e1, he1⟩ : ∃ e1, (dumpS L).2 = e1 := ⟨_, rfl⟩
  obtain ⟨cv, hcv⟩ : ∃ cv : Int, (if treeS nameS typeS L then 0 else 30) = cv := ⟨_, rfl⟩
  obtain ⟨s2, hs2⟩ : ∃ s2, bk (dumpS L2).1 = s2 := ⟨_, rfl⟩
  obtain ⟨e2, he2⟩ : ∃ e2, (dumpS L2).2 = e2 := ⟨_, rfl⟩
  obtain ⟨cv2, hcv2⟩ : ∃ cv2 : Int, (if treeS nameS typeS L2 then 0 else 30) = cv2 := ⟨_, rfl⟩
  have T1 : Hid (Tells L s1 e1 cv) := by have := tells L hr hp; rw [hs1, he1, hcv] at this; exact this
  have T2 : Hid (Tells L2 s2 e2 cv2) := by have := tells L2 hr2 hp2; rw [hs2, he2, hcv2] at this; exact this
  have H6A : Hid (∀ w' pa ca, Below W1.heap.size W1 w' → Reads w' pa n L → Calls Tryz.prog 6 #[.agg #[.slice pa n ca]] w' fun e w'' => e = .returned (.tuple #[.string s1, .int .i64 e1]) ∧ Below w'.heap.size w' w'') := fun w' pa ca hb hrd => by
    have := dump_any w' pa n ca L hrd (HX.out w' hb).2.2.2.1 (HX.out w' hb).2.2.1.d hr hp (HX.out w' hb).2.2.1.size
    rw [← hs1, ← he1]
    exact this
  have H6B : Hid (∀ w' pa ca, Below W1.heap.size W1 w' → Reads w' pa m L2 → Calls Tryz.prog 6 #[.agg #[.slice pa m ca]] w' fun e w'' => e = .returned (.tuple #[.string s2, .int .i64 e2]) ∧ Below w'.heap.size w' w'') := fun w' pa ca hb hrd => by
    have := dump_any w' pa m ca L2 hrd (HX.out w' hb).2.2.2.1 (HX.out w' hb).2.2.1.d hr2 hp2 (HX.out w' hb).2.2.1.size
    rw [← hs2, ← he2]
    exact this
  have H8A : Hid (∀ w' pa ca, Below W1.heap.size W1 w' → Reads w' pa n L → Calls Tryz.prog 8 #[.agg #[.slice pa n ca]] w' fun e w'' => e = .returned (.int .i64 cv) ∧ Below w'.heap.size w' w'') := fun w' pa ca hb hrd => by
    have := valid_any w' pa n ca L hrd (HX.out w' hb).2.2.2.1
    rw [← hcv]
    exact this
  have H8o : Hid (∀ (w' : World) (p' : Option Addr) (c' : Nat), Below W1.heap.size W1 w' → Reads w' p' 1 [oneNd] → Calls Tryz.prog 8 #[.agg #[.slice p' 1 c']] w' fun e w'' => e = .returned (.int .i64 0) ∧ Below w'.heap.size w' w'') := fun w' p' c' hb hrd => by
    have := valid_any w' p' 1 c' [oneNd] hrd (HX.out w' hb).2.2.2.1
    rw [one_tree] at this
    exact this
  clear hA hB hT hk hm hr hp hr2 hp2 hs1 he1 hcv hs2 he2 hcv2
  go_enter Tryz.func3, Tryz.ntmps3
  go_upto_region 1 with go_in
  clear hW1
  have e0 := HC.out W1 0 (.slice p n cap) (Below.refl _ _) rfl
  go_upto_region 3 with (first
    | (go_at_call 5; have hq := hc2; refine (H5B.out w2 hc2).mono ?_; rintro e w3 ⟨⟨db, rfl⟩, hb3⟩; have hc3 := hc2.trans (hb3.mono hc2.size))
    | (go_at_call 5; refine (H5A.out W1 (Below.refl _ _)).mono ?_; rintro e w2 ⟨⟨da, rfl⟩, hc2⟩; have f1 := HC.out w2 1 (.slice q m cap2) hc2 rfl)
    | go_in)
  all_goals try (go_ret; first | exact ⟨rfl, HBW.out _ hc3⟩ | exact ⟨rfl, HBW.out _ hc2⟩)
  clear e0 f1 H5A H5B hb3 hc2
  have e0 := HC.out w3 0 (.slice p n cap) hc3 rfl
  go_upto_region 6 with (first
    | (go_at_call 8; refine (H8A.out w8 pd cd hc8 rd8.out).mono ?_; rintro e w9 ⟨rfl, hb9⟩; have hc9 := hc8.trans (hb9.mono hc8.size))
    | (go_at_call 7; have hq := hc7; refine (H7A.out w7 hc7).mono ?_; rintro e w8 ⟨⟨pd, cd, rfl, rd8⟩, hb8⟩; have hc8 := hc7.trans (hb8.mono hc7.size))
    | (go_at_call 6; have hq := hc6; refine (H6B.out w6 pb cb hc6 rd6.out).mono ?_; rintro e w7 ⟨rfl, hb7⟩; have hc7 := hc6.trans (hb7.mono hc6.size); have e7 := HC.out w7 0 (.slice p n cap) hc7 rfl)
    | (go_at_call 7; have hq := hc5; refine (H7B.out w5 hc5).mono ?_; rintro e w6 ⟨⟨pb, cb, rfl, rd6⟩, hb6⟩; have hc6 := hc5.trans (hb6.mono hc5.size))
    | (go_at_call 6; refine (H6A.out w4 pa ca hc4 rd4.out).mono ?_; rintro e w5 ⟨rfl, hb5⟩; have hc5 := hc4.trans (hb5.mono hc4.size); have f5 := HC.out w5 1 (.slice q m cap2) hc5 rfl)
    | (go_at_call 7; refine (H7A.out w3 hc3).mono ?_; rintro e w4 ⟨⟨pa, ca, rfl, rd4⟩, hb4⟩; have hc4 := hc3.trans (hb4.mono hc3.size))
    | go_in)
  clear e0 e7 f5 rd4 rd6 rd8 hb4 hb5 hb6 hb7 hb8 hb9 hc3 hc4 hc5 hc6 hc7 hc8 H7A H7B H8A
  go_cut [71] (fun u71 wx => u71 = .bool false ∧ wx = w9)
  case first =>
    have e0 := HC.out w9 0 (.slice p n cap) hc9 rfl
    have hse : (bk []).toList.isEmpty = true := by rw [ByteArray.toList_eq, bk_list]; rfl
    rcases T1.out with ⟨_, _, rfl, rfl, rfl⟩ | ⟨h5, rfl, rfl, rfl⟩ | ⟨rfl, rfl, rfl⟩
    · generalize bk (dmp L L.length) = sx at *
      go_wp2
      go_meet
      case rel => exact ⟨rfl, rfl⟩
    · have h5n : ¬ (n : Int) < 500 := by have := HFA.out.2.1; omega
      generalize bk [] = sx at *
      go_wp2
      go_meet
      case rel => exact ⟨rfl, rfl⟩
    · generalize bk [] = sx at *
      go_wp2
      go_meet
      case rel => exact ⟨rfl, rfl⟩
  case rest =>
    obtain ⟨rfl, rfl⟩ := hcut
    go_upto_if 73 with go_in
    go_cut [8, 9] (fun _ _ wx => Hid (Below W1.heap.size W1 wx))
    case first =>
      rcases T1.out with ⟨t1, l1, hs1, rfl, rfl⟩ | ⟨h5, rfl, rfl, rfl⟩ | ⟨rfl, rfl, rfl⟩
      · have HR1 : Hid (readS s1.data.toList = some L) := by
          show _ = _
          rw [hs1, bk_list]
          exact read_ok t1 (tr_of t1) HRG.out.1 HRG.out.2.1 l1
        have H9 : Hid (Calls Tryz.prog 9 #[.string s1] wc fun e w' => (∃ pv cw, e = .returned (.tuple #[.agg #[.slice pv L.length cw], .int .i64 0]) ∧ Hid (w'.ownsRow wc.heap.size 42 9 (.slice pv L.length cw) L.length (flat L))) ∧ Below wc.heap.size wc w') := load_yes s1 wc qa (HX.out wc hc9).2.2.1 (HX.out wc hc9).2.2.2.1 mx (HX.out wc hc9).2.2.2.2 L HR1.out
        have H10A : Hid (∀ w' pv cw, Below W1.heap.size W1 w' → Reads w' pv L.length L → Calls Tryz.prog 10 #[.slice pv L.length cw, .slice p n cap] w' fun e w'' => e = .returned (.bool true) ∧ Below w'.heap.size w' w'') := fun w' pv cw hb hrd => by
          refine (sameG_any w' pv p L.length n cw cap L L hrd (HX.out w' hb).1.reads).mono ?_
          rintro e w'' ⟨⟨b, rfl, hbb⟩, hb2⟩
          rw [hbb.2 rfl]
          exact ⟨rfl, hb2⟩
        rcases T2.out with ⟨t2, l2, hs2, rfl, rfl⟩ | ⟨-, -, rfl, rfl⟩ | ⟨-, rfl, rfl⟩
        · have H10B : Hid (∀ w', Below W1.heap.size W1 w' → Calls Tryz.prog 10 #[.slice p n cap, .slice q m cap2] w' fun e w'' => e = .returned (.bool (s1.toList == s2.toList)) ∧ Below w'.heap.size w' w'') := fun w' hb => by
            refine (sameG_any w' p q n m cap cap2 L L2 (HX.out w' hb).1.reads (HX.out w' hb).2.1.reads).mono ?_
            rintro e w'' ⟨⟨b, rfl, hbb⟩, hb2⟩
            refine ⟨?_, hb2⟩
            have : b = (s1.toList == s2.toList) := by
              rw [Bool.eq_iff_iff, hbb, hs1, hs2, toL, toL, bk_list, bk_list, beq_iff_eq]
              exact ⟨fun e => by rw [e], fun e => dmp_inj t1 t2 HRG.out.1 HRG.out.2.2.1 HRG.out.2.1 HRG.out.2.2.2 l1 e⟩
            rw [this]
          clear hs1 hs2 T1 T2 t1 t2 l1 l2 HR1
          go_upto_region 12 with (first
            | (go_at_call 9; refine H9.out.mono ?_; rintro e w10 ⟨⟨pv, cw, rfl, ho10⟩, hb10⟩; have hc10 := hc9.trans (hb10.mono hc9.size); have hc11 : Below W1.heap.size W1 (w10.alloc (.cells #[.slice pv L.length cw] 24)) := hc10.alloc hc10.size _; have f0 := HC.out _ 0 (.slice p n cap) hc11 rfl; have rd11 : Hid (Reads (w10.alloc (.cells #[.slice pv L.length cw] 24)) pv L.length L) := (reads_own ho10.out HFA.out.1).next ((Below.refl _ w10).alloc (Nat.le_refl _) _))
            | (go_at_call 10; refine (H10A.out _ pv cw hc11 rd11.out).mono ?_; rintro e w12 ⟨rfl, hb12⟩; have hc12 := hc11.trans (hb12.mono hc11.size))
            | go_in)
          clear f0 rd11 ho10 hb10 hb12 hc10 hc11 H10A H9
          have g0 := HC.out w12 0 (.slice p n cap) hc12 rfl
          have g1 := HC.out w12 1 (.slice q m cap2) hc12 rfl
          go_wp2_with (first
            | (go_at_call 10; refine (H10B.out w12 hc12).mono ?_; rintro e w13 ⟨rfl, hb13⟩)
            | go_in)
          go_meet
          case rel => exact hc12.trans (hb13.mono hc12.size)
        · clear hs1 T1 T2 t1 l1 HR1
          go_wp2_with (first
            | (go_at_call 9; refine H9.out.mono ?_; rintro e w10 ⟨⟨pv, cw, rfl, ho10⟩, hb10⟩; have hc10 := hc9.trans (hb10.mono hc9.size); have hc11 : Below W1.heap.size W1 (w10.alloc (.cells #[.slice pv L.length cw] 24)) := hc10.alloc hc10.size _; have f0 := HC.out _ 0 (.slice p n cap) hc11 rfl; have rd11 : Hid (Reads (w10.alloc (.cells #[.slice pv L.length cw] 24)) pv L.length L) := (reads_own ho10.out HFA.out.1).next ((Below.refl _ w10).alloc (Nat.le_refl _) _))
            | (go_at_call 10; refine (H10A.out _ pv cw hc11 rd11.out).mono ?_; rintro e w12 ⟨rfl, hb12⟩; have hc12 := hc11.trans (hb12.mono hc11.size))
            | go_in)
          go_meet
          case rel => exact hc12
        · clear hs1 T1 T2 t1 l1 HR1
          go_wp2_with (first
            | (go_at_call 9; refine H9.out.mono ?_; rintro e w10 ⟨⟨pv, cw, rfl, ho10⟩, hb10⟩; have hc10 := hc9.trans (hb10.mono hc9.size); have hc11 : Below W1.heap.size W1 (w10.alloc (.cells #[.slice pv L.length cw] 24)) := hc10.alloc hc10.size _; have f0 := HC.out _ 0 (.slice p n cap) hc11 rfl; have rd11 : Hid (Reads (w10.alloc (.cells #[.slice pv L.length cw] 24)) pv L.length L) := (reads_own ho10.out HFA.out.1).next ((Below.refl _ w10).alloc (Nat.le_refl _) _))
            | (go_at_call 10; refine (H10A.out _ pv cw hc11 rd11.out).mono ?_; rintro e w12 ⟨rfl, hb12⟩; have hc12 := hc11.trans (hb12.mono hc11.size))
            | go_in)
          go_meet
          case rel => exact hc12
      · go_wp2
        go_meet
        case rel => exact hc9
      · go_wp2
        go_meet
        case rel => exact hc9
    case rest =>
      clear hc9 T1 T2 H6A H6B
      have hc := hcut.out
      have e3 := HC.out wc 3 (.string Tx) hc rfl
      cases hR : readS Tx.data.toList with
      | none =>
        have H9 : Hid (Calls Tryz.prog 9 #[.string Tx] wc fun e w' => e = .returned (.tuple #[.agg #[.slice none 0 0], .int .i64 31]) ∧ Below wc.heap.size wc w') := load_no Tx wc qa (HX.out wc hc).2.2.1 (HX.out wc hc).2.2.2.1 mx (HX.out wc hc).2.2.2.2 hR
        clear hR
        go_wp2_with (first
          | (go_at_call 9; refine H9.out.mono ?_; rintro e w10 ⟨rfl, hb10⟩; have hc10 := hc.trans (hb10.mono hc.size); have hc11 : Below W1.heap.size W1 (w10.alloc (.cells #[.slice none 0 0] 24)) := hc10.alloc hc10.size _)
          | (go_at_call 11; refine (one_any _).mono ?_; rintro e w12 ⟨⟨p2, k2, rfl, r2⟩, hb12⟩; have hc12 := hc11.trans (hb12.mono hc11.size))
          | (go_at_call 8; refine (H8o.out w12 p2 k2 hc12 r2.out).mono ?_; rintro e w13 ⟨rfl, hb13⟩; have hc13 := hc12.trans (hb13.mono hc12.size))
          | go_in)
        go_ret
        exact ⟨rfl, HBW.out _ hc13⟩
      | some Lt =>
        have H9 : Hid (Calls Tryz.prog 9 #[.string Tx] wc fun e w' => (∃ pv cw, e = .returned (.tuple #[.agg #[.slice pv Lt.length cw], .int .i64 0]) ∧ Hid (w'.ownsRow wc.heap.size 42 9 (.slice pv Lt.length cw) Lt.length (flat Lt))) ∧ Below wc.heap.size wc w') := load_yes Tx wc qa (HX.out wc hc).2.2.1 (HX.out wc hc).2.2.2.1 mx (HX.out wc hc).2.2.2.2 Lt hR
        obtain ⟨r1, r2, r3⟩ := read_sound hR
        have hfl := read_fine hR
        have hrg := read_rng hR
        have H6t : Hid (∀ w' pv cw, Below W1.heap.size W1 w' → Reads w' pv Lt.length Lt → Calls Tryz.prog 6 #[.agg #[.slice pv Lt.length cw]] w' fun e w'' => e = .returned (.tuple #[.string Tx, .int .i64 0]) ∧ Below w'.heap.size w' w'') := fun w' pv cw hb hrd => by
          have := dump_any w' pv Lt.length cw Lt hrd (HX.out w' hb).2.2.2.1 (HX.out w' hb).2.2.1.d hrg.1 hrg.2 (HX.out w' hb).2.2.1.size
          rw [dump_ok r1 (by rw [r2]; exact r3), r2] at this
          rw [show (⟨Tx.data.toList.toArray⟩ : ByteArray) = Tx from bk_of Tx] at this
          exact this
        have HFL : Hid (Fine Lt) := hfl
        clear hR r1 r2 r3 hfl hrg
        go_wp2_with (first
          | (go_at_call 9; refine H9.out.mono ?_; rintro e w10 ⟨⟨pv, cw, rfl, ho10⟩, hb10⟩; have hc10 := hc.trans (hb10.mono hc.size); have hc11 : Below W1.heap.size W1 (w10.alloc (.cells #[.slice pv Lt.length cw] 24)) := hc10.alloc hc10.size _; have rd11 : Hid (Reads (w10.alloc (.cells #[.slice pv Lt.length cw] 24)) pv Lt.length Lt) := (reads_own ho10.out HFL.out).next ((Below.refl _ w10).alloc (Nat.le_refl _) _))
          | (go_at_call 6; refine (H6t.out _ pv cw hc11 rd11.out).mono ?_; rintro e w12 ⟨rfl, hb12⟩; have hc12 := hc11.trans (hb12.mono hc11.size); have g3 := HC.out w12 3 (.string Tx) hc12 rfl)
          | go_in)
        go_ret
        exact ⟨rfl, HBW.out _ hc12⟩
end Go.Proofs.YtekgnogjfggnmaaGreatDoor
