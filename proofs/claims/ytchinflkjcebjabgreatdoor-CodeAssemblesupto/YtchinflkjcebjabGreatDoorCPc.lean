import Derived.Test.YtchinflkjcebjabGreatDoorCPb
namespace Go.Proofs.YtchinflkjcebjabGreatDoor
open Go.RowKit

def ewB (e : En) : List ByteArray := (entW e).map YtchinflkjcebjabGreatDoor.bk
def iwB (x : In) : List ByteArray := (insW x).map YtchinflkjcebjabGreatDoor.bk
theorem dl_bk (l : List Bs) : dl (l.map YtchinflkjcebjabGreatDoor.bk) = l := by
  unfold dl
  rw [List.map_map]
  have : ((fun s : ByteArray => s.data.toList) ∘ YtchinflkjcebjabGreatDoor.bk) = id := funext fun l => bk_data l
  rw [this, List.map_id]
theorem callw (a b : Value) (w : World) : (callFunc 29 #[a, b]).run Tryz.prog w = .ok (.enter 29 #[a, b]) w := by kernel_rfl
theorem word_v (o : Nat) (n : Int) (w : World) (ho : o < 13) (hm : mayS o n = true) (ht : Tabs w) (h0 : -9223372036854775808 ≤ n) (h1 : n ≤ 9223372036854775807) :
    Calls Tryz.prog 29 #[.int .i64 (o : Int), .int .i64 n] w fun e w' => ∃ v, e = .returned v ∧ (v = .string (YtchinflkjcebjabGreatDoor.bk (opW o n)) ∧ Below w.heap.size w w') := (word_any o n w ho hm ht h0 h1).mono fun _ _ ⟨a, b⟩ => ⟨_, a, rfl, b⟩
theorem own_lit (w : World) (C : List Value) (e : TypeId) (k : Nat) (hk : C.length = k) (hm : k ≤ 1000) : (w.alloc (.cells C.toArray e)).ownsRow w.heap.size e 1 (.slice (some ⟨w.heap.size, 0, none⟩) k k) k C := by
  subst hk
  exact ⟨by simp, .inr ⟨w.heap.size, C.length, C.toArray, rfl, Nat.le_refl _, World.alloc_heap_new w _, Nat.le_refl _, by unfold maxLen; omega, by simp, by simp⟩⟩
theorem tv_app (a b : List ByteArray) : tv (a ++ b) = tv a ++ tv b := List.map_append
set_option maxRecDepth 100000 in
set_option maxHeartbeats 4000000 in
theorem entryWords_any (x : Em) (w : World) (hok : EntOk x.1) (ht : Tabs w) (hr : Row w w.heap.size x.2.1 x.1.sorts.length (sv x.1.sorts)) :
    Calls Tryz.prog 31 #[.agg (ec x).toArray] w fun e w' => ∃ q cap, e = .returned (.slice q (ewB x.1).length cap) ∧ Hid (w'.ownsRow w.heap.size 9 1 (.slice q (ewB x.1).length cap) (ewB x.1).length (tv (ewB x.1)) ∧ Below w.heap.size w w') := by
  obtain ⟨⟨nm, st, pr, so, rs⟩, q, cp⟩ := x
  simp only at hr hok ⊢
  have hlen : (ewB ⟨nm, st, pr, so, rs⟩).length = 4 + so.length := by unfold ewB entW; simp; omega
  obtain ⟨L, HL⟩ : ∃ L, Hid (L = ewB ⟨nm, st, pr, so, rs⟩) := ⟨_, rfl⟩
  rw [hlen, ← HL.out]
  obtain ⟨rt, HRT⟩ : ∃ rt : ByteArray, Hid (rt = if rs = 0 then ⟨#[45]⟩ else tyT.getD rs.toNat e0) := ⟨_, rfl⟩
  have HLL : Hid (L = [⟨#[102, 110]⟩, nm, YtchinflkjcebjabGreatDoor.bk (Lib.itoa pr), rt] ++ so.map (fun n => tyT.getD n.toNat e0)) := by
    show L = _
    rw [HL.out]
    unfold ewB entW
    simp only [List.map_append, List.map_cons, List.map_nil, List.map_map, bk_all]
    have e1 : YtchinflkjcebjabGreatDoor.bk (if rs = 0 then [45] else tyW rs) = rt := by
      rw [HRT.out]
      split
      · rfl
      · exact bk_all _
    have e2 : (YtchinflkjcebjabGreatDoor.bk ∘ tyW) = fun n : Int => tyT.getD n.toNat e0 := funext fun n => bk_all _
    rw [e1, e2]
    rfl
  have hw12 : opW 12 pr = Lib.itoa pr := rfl
  have hm12 : mayS 12 pr = true := by
    rw [may_iff]
    have a : shLo.getD 12 0 = 0 := rfl
    have b : shHi.getD 12 0 = 8 := rfl
    have p0 : 0 ≤ pr := hok.p0
    have p8 : pr ≤ 8 := hok.p8
    exact ⟨by omega, by omega, fun h => by omega⟩
  have HWd : Hid (∀ W, Below w.heap.size w W → Calls Tryz.prog 29 #[.int .i64 12, .int .i64 pr] W fun e w' => ∃ v, e = .returned v ∧ (v = .string (YtchinflkjcebjabGreatDoor.bk (Lib.itoa pr)) ∧ Below W.heap.size W w')) := fun W hW => by
    have p0 : 0 ≤ pr := hok.p0
    have p8 : pr ≤ 8 := hok.p8
    have h := word_v 12 pr W (by decide) hm12 (ht.next hW) (by omega) (by omega)
    rw [hw12] at h
    exact h
  have HRs : Hid (rs ≠ 0 → 0 < rs ∧ rs < 20) := fun h => by
    rcases hok.rs with q | q
    · exact absurd q h
    · exact sort_rng q
  have HSo : Hid (∀ j (hj : j < so.length), 0 < so[j] ∧ so[j] < 20) := fun j hj => sort_rng (hok.ss _ (List.getElem_mem hj))
  have hsl : so.length ≤ 250 := hok.sl
  have hsi : (so.length : Int) ≤ 250 := by omega
  have HT : Hid (Tabs w) := ht
  have HR : Hid (Row w w.heap.size q so.length (sv so)) := hr
  generalize YtchinflkjcebjabGreatDoor.bk (Lib.itoa pr) = pw at *
  have B1 : Below w.heap.size w (w.alloc (.cells #[.string nm, .int .i64 st, .int .i64 pr, .slice q so.length cp, .int .i64 rs] 50)) := (Below.refl _ w).alloc (Nat.le_refl _) _
  have x0 := (cells_new w #[.string nm, .int .i64 st, .int .i64 pr, .slice q so.length cp, .int .i64 rs] 50 0 (.string nm) rfl).1
  have x2 := (cells_new w #[.string nm, .int .i64 st, .int .i64 pr, .slice q so.length cp, .int .i64 rs] 50 2 (.int .i64 pr) rfl).1
  have x3 := (cells_new w #[.string nm, .int .i64 st, .int .i64 pr, .slice q so.length cp, .int .i64 rs] 50 3 (.slice q so.length cp) rfl).1
  have x4 := (cells_new w #[.string nm, .int .i64 st, .int .i64 pr, .slice q so.length cp, .int .i64 rs] 50 4 (.int .i64 rs) rfl).1
  have hlt1 : w.heap.size < (w.alloc (.cells #[.string nm, .int .i64 st, .int .i64 pr, .slice q so.length cp, .int .i64 rs] 50)).heap.size := by simp
  clear hok hm12 hw12 hlen hr ht HL
  show Calls Tryz.prog 31 #[.agg #[.string nm, .int .i64 st, .int .i64 pr, .slice q so.length cp, .int .i64 rs]] w _
  go_enter Tryz.func31, Tryz.ntmps31
  go_upto_region 1 with fail
  generalize w.alloc (.cells #[.string nm, .int .i64 st, .int .i64 pr, .slice q so.length cp, .int .i64 rs] 50) = X at *
  -- the rest, whatever the result's word is
  have HX : Hid (∀ W, Below X.heap.size X W → W.cell? ⟨w.heap.size, 0, none⟩ = some (.string nm) ∧ W.cell? ⟨w.heap.size, 2, none⟩ = some (.int .i64 pr) ∧ W.cell? ⟨w.heap.size, 3, none⟩ = some (.slice q so.length cp)) := fun W hW => ⟨(hW.cell (p := ⟨w.heap.size, 0, none⟩) hlt1).trans x0, (hW.cell (p := ⟨w.heap.size, 2, none⟩) hlt1).trans x2, (hW.cell (p := ⟨w.heap.size, 3, none⟩) hlt1).trans x3⟩
  have HB : Hid (Below w.heap.size w X) := B1
  have n2 := HWd.out X.drew (below2 B1 (Below.refl _ X).drew)
  have HTy : Hid (∀ W, Below w.heap.size w W → ∀ k, k < 20 → W.cell? ⟨3, k, none⟩ = some (.string (tyT.getD k e0))) := fun W hW k hk => (HT.out.next hW).typ k hk
  have HRX : Hid (∀ W, Below w.heap.size w W → ∀ j (hj : j < so.length), ∃ g o, q = some ⟨g, o, none⟩ ∧ W.cell? ⟨g, o + j, none⟩ = some (.int .i64 so[j])) := fun W hW j hj => by
    obtain ⟨g, o, h1, h2, h3⟩ := row_get HR.out j hj
    exact ⟨g, o, h1, (hW.cell (p := ⟨g, o + j, none⟩) h2).trans (h3 j _ (by unfold sv; rw [List.getElem?_map, List.getElem?_eq_getElem hj]; rfl))⟩
  by_cases hrs : rs = 0
  case pos =>
    have hrt : (⟨#[45]⟩ : ByteArray) = rt := by rw [HRT.out, if_pos hrs]
    have HHrt : Hid ((⟨#[45]⟩ : ByteArray) = rt) := hrt
    clear HRT hrt HRs
    go_upto_region 4 with fail
    rw [HHrt.out]
    clear HHrt hrs
    clear x0 x2 x3 x4
    obtain ⟨x0, x2, x3⟩ := HX.out X (Below.refl _ _)
    go_wp2_with fail
    go_region_law (first
      | (refine step_call (by rfl) 29 [.const (.int .i64 12), .tmp 17] #[56, 2] [.int .i64 12, .int .i64 pr] (by rfl) (by rfl) (callw _ _) _ n2 ?_; rintro v8 W8 ⟨rfl, hb8⟩; have bX8 : Below X.heap.size X W8 := below2 (Below.refl _ X).drew hb8; obtain ⟨z0, z2, z3⟩ := HX.out W8 bX8))
    all_goals
      obtain ⟨W9, hW9⟩ : ∃ W9, W9 = W8.alloc (.cells #[.string ⟨#[102, 110]⟩, .string nm, .string pw, .string rt] 9) := ⟨_, rfl⟩
      have O9 : W9.ownsRow W8.heap.size 9 1 (.slice (some ⟨W8.heap.size, 0, none⟩) 4 4) 4 (tv [⟨#[102, 110]⟩, nm, pw, rt]) := by rw [hW9]; exact own_lit W8 [.string ⟨#[102, 110]⟩, .string nm, .string pw, .string rt] 9 4 rfl (by decide)
      have nb9 : Below W8.heap.size W8 W9 := by rw [hW9]; exact (Below.refl _ W8).alloc (Nat.le_refl _) _
      have HW9 : Hid (W9 = W8.alloc (.cells #[.string ⟨#[102, 110]⟩, .string nm, .string pw, .string rt] 9)) := hW9
      have bw8 : Below w.heap.size w W8 := below2 HB.out bX8
      have HO9 : Hid (W9.ownsRow w.heap.size 9 1 (.slice (some ⟨W8.heap.size, 0, none⟩) 4 4) 4 (tv [⟨#[102, 110]⟩, nm, pw, rt])) := own_down O9 bw8.size
      have HB9 : Hid (Below w.heap.size w W9) := below2 bw8 nb9
      obtain ⟨-, -, y3⟩ := HX.out W9 (below2 bX8 nb9)
      clear hW9 O9 nb9 bw8 z0 z2 z3 bX8 hb8 n2
      go_upto_region 5 with fail
      rw [← HW9.out]
      clear HW9
      go_wp2_with fail
      go_loopw [4, 24] (fun b i wr => ∃ j : Nat, j ≤ so.length ∧ i = .int .i64 (j : Int) ∧ Hid (wr.ownsRow w.heap.size 9 1 b (4 + j) (tv ([⟨#[102, 110]⟩, nm, pw, rt] ++ (so.take j).map (fun n => tyT.getD n.toNat e0)))) ∧ Hid (Below w.heap.size w wr)) (fun _ i _ => so.length - (intOf i).toNat)
      case atStart => exact ⟨0, Nat.zero_le _, rfl, by rw [List.take_zero, List.map_nil, List.append_nil]; exact HO9, HB9⟩
      case round =>
        obtain ⟨j, hj, rfl, hO, hB⟩ := hrel
        obtain ⟨qb, cb, rfl, -, -⟩ := own_slice hO.out
        by_cases hlt : j < so.length
        case neg =>
          obtain rfl : j = so.length := by omega
          rw [List.take_length, ← HLL.out] at hO
          go_wp2
          first | (change bodyPost Tryz.prog Tryz.f31 _ Exit.ret _ _) | (simp only [Exit.noGoto])
          go_ret
          exact ⟨qb, cb, rfl, hO.out, hB.out⟩
        obtain ⟨g, o, rfl, hc⟩ := HRX.out wr hB.out j hlt
        obtain ⟨s0, s1⟩ := HSo.out j hlt
        have HT1 : Hid ((so.take (j + 1)).map (fun n => tyT.getD n.toNat e0) = (so.take j).map (fun n => tyT.getD n.toNat e0) ++ [tyT.getD so[j].toNat e0]) := by
          show _ = _
          rw [List.take_succ_eq_append_getElem hlt, List.map_append]
          rfl
        generalize so[j] = sj at *
        obtain ⟨k, rfl⟩ : ∃ k : Nat, sj = (k : Int) := ⟨sj.toNat, by omega⟩
        have ck := HTy.out wr hB.out k (by omega)
        rw [Int.toNat_natCast] at HT1
        generalize tyT.getD k e0 = tk at *
        generalize hWL : [(⟨#[102, 110]⟩ : ByteArray), nm, pw, rt] ++ (so.take j).map (fun n => tyT.getD n.toNat e0) = WL at hO
        have HWL : Hid ([(⟨#[102, 110]⟩ : ByteArray), nm, pw, rt] ++ (so.take j).map (fun n => tyT.getD n.toNat e0) = WL) := hWL
        clear hWL
        have j0 : (0 : Int) ≤ (j : Int) := by omega
        have j1 : (j : Int) < (so.length : Int) := by omega
        have H1 := one1 (.string tk) rfl
        have hzr := hB.out.size
        clear y3
        go_wp2_with (first
          | (at_builtin; refine wpList_app 24 9 _ 1 16 Tryz.underlying24 info9 (by rfl) (by decide) (by decide) (by rfl) _ _ (by rfl) w.heap.size (.slice qb (4 + j) cb) (4 + j) (tv WL) (by rfl) hO.out _ (by rfl) H1 (by rfl) (by omega) hzr ?_; intro v4 w4 ho4 hg4; obtain ⟨q4, c4, rfl, -, -⟩ := own_slice ho4.out)
          | fail)
        refine ⟨⟨j + 1, by omega, by go_num, ?_, ?_⟩, by simp [intOf]; omega⟩
        · rw [HT1.out, ← List.append_assoc]
          have := ho4.out
          rw [HWL.out, tv_app]
          exact this
        · exact (hB.out.alloc hzr _).grown hg4.out.1 (by simp; omega) (own_ge hO.out)
  case neg =>
    obtain ⟨r0, r1⟩ := HRs.out hrs
    have hrt : rt = tyT.getD rs.toNat e0 := by rw [HRT.out, if_neg hrs]
    obtain ⟨k, rfl⟩ : ∃ k : Nat, rs = (k : Int) := ⟨rs.toNat, by omega⟩
    rw [Int.toNat_natCast] at hrt
    have ck := HTy.out X B1 k (by omega)
    rw [← hrt] at ck
    clear HRT hrt HRs
    go_upto_region 4 with fail
    clear ck r0 r1 hrs
    clear x0 x2 x3 x4
    obtain ⟨x0, x2, x3⟩ := HX.out X (Below.refl _ _)
    go_wp2_with fail
    go_region_law (first
      | (refine step_call (by rfl) 29 [.const (.int .i64 12), .tmp 17] #[56, 2] [.int .i64 12, .int .i64 pr] (by rfl) (by rfl) (callw _ _) _ n2 ?_; rintro v8 W8 ⟨rfl, hb8⟩; have bX8 : Below X.heap.size X W8 := below2 (Below.refl _ X).drew hb8; obtain ⟨z0, z2, z3⟩ := HX.out W8 bX8))
    all_goals
      obtain ⟨W9, hW9⟩ : ∃ W9, W9 = W8.alloc (.cells #[.string ⟨#[102, 110]⟩, .string nm, .string pw, .string rt] 9) := ⟨_, rfl⟩
      have O9 : W9.ownsRow W8.heap.size 9 1 (.slice (some ⟨W8.heap.size, 0, none⟩) 4 4) 4 (tv [⟨#[102, 110]⟩, nm, pw, rt]) := by rw [hW9]; exact own_lit W8 [.string ⟨#[102, 110]⟩, .string nm, .string pw, .string rt] 9 4 rfl (by decide)
      have nb9 : Below W8.heap.size W8 W9 := by rw [hW9]; exact (Below.refl _ W8).alloc (Nat.le_refl _) _
      have HW9 : Hid (W9 = W8.alloc (.cells #[.string ⟨#[102, 110]⟩, .string nm, .string pw, .string rt] 9)) := hW9
      have bw8 : Below w.heap.size w W8 := below2 HB.out bX8
      have HO9 : Hid (W9.ownsRow w.heap.size 9 1 (.slice (some ⟨W8.heap.size, 0, none⟩) 4 4) 4 (tv [⟨#[102, 110]⟩, nm, pw, rt])) := own_down O9 bw8.size
      have HB9 : Hid (Below w.heap.size w W9) := below2 bw8 nb9
      obtain ⟨-, -, y3⟩ := HX.out W9 (below2 bX8 nb9)
      clear hW9 O9 nb9 bw8 z0 z2 z3 bX8 hb8 n2
      go_upto_region 5 with fail
      rw [← HW9.out]
      clear HW9
      go_wp2_with fail
      go_loopw [4, 24] (fun b i wr => ∃ j : Nat, j ≤ so.length ∧ i = .int .i64 (j : Int) ∧ Hid (wr.ownsRow w.heap.size 9 1 b (4 + j) (tv ([⟨#[102, 110]⟩, nm, pw, rt] ++ (so.take j).map (fun n => tyT.getD n.toNat e0)))) ∧ Hid (Below w.heap.size w wr)) (fun _ i _ => so.length - (intOf i).toNat)
      case atStart => exact ⟨0, Nat.zero_le _, rfl, by rw [List.take_zero, List.map_nil, List.append_nil]; exact HO9, HB9⟩
      case round =>
        obtain ⟨j, hj, rfl, hO, hB⟩ := hrel
        obtain ⟨qb, cb, rfl, -, -⟩ := own_slice hO.out
        by_cases hlt : j < so.length
        case neg =>
          obtain rfl : j = so.length := by omega
          rw [List.take_length, ← HLL.out] at hO
          go_wp2
          first | (change bodyPost Tryz.prog Tryz.f31 _ Exit.ret _ _) | (simp only [Exit.noGoto])
          go_ret
          exact ⟨qb, cb, rfl, hO.out, hB.out⟩
        obtain ⟨g, o, rfl, hc⟩ := HRX.out wr hB.out j hlt
        obtain ⟨s0, s1⟩ := HSo.out j hlt
        have HT1 : Hid ((so.take (j + 1)).map (fun n => tyT.getD n.toNat e0) = (so.take j).map (fun n => tyT.getD n.toNat e0) ++ [tyT.getD so[j].toNat e0]) := by
          show _ = _
          rw [List.take_succ_eq_append_getElem hlt, List.map_append]
          rfl
        generalize so[j] = sj at *
        obtain ⟨k, rfl⟩ : ∃ k : Nat, sj = (k : Int) := ⟨sj.toNat, by omega⟩
        have ck := HTy.out wr hB.out k (by omega)
        rw [Int.toNat_natCast] at HT1
        generalize tyT.getD k e0 = tk at *
        generalize hWL : [(⟨#[102, 110]⟩ : ByteArray), nm, pw, rt] ++ (so.take j).map (fun n => tyT.getD n.toNat e0) = WL at hO
        have HWL : Hid ([(⟨#[102, 110]⟩ : ByteArray), nm, pw, rt] ++ (so.take j).map (fun n => tyT.getD n.toNat e0) = WL) := hWL
        clear hWL
        have j0 : (0 : Int) ≤ (j : Int) := by omega
        have j1 : (j : Int) < (so.length : Int) := by omega
        have H1 := one1 (.string tk) rfl
        have hzr := hB.out.size
        clear y3
        go_wp2_with (first
          | (at_builtin; refine wpList_app 24 9 _ 1 16 Tryz.underlying24 info9 (by rfl) (by decide) (by decide) (by rfl) _ _ (by rfl) w.heap.size (.slice qb (4 + j) cb) (4 + j) (tv WL) (by rfl) hO.out _ (by rfl) H1 (by rfl) (by omega) hzr ?_; intro v4 w4 ho4 hg4; obtain ⟨q4, c4, rfl, -, -⟩ := own_slice ho4.out)
          | fail)
        refine ⟨⟨j + 1, by omega, by go_num, ?_, ?_⟩, by simp [intOf]; omega⟩
        · rw [HT1.out, ← List.append_assoc]
          have := ho4.out
          rw [HWL.out, tv_app]
          exact this
        · exact (hB.out.alloc hzr _).grown hg4.out.1 (by simp; omega) (own_ge hO.out)
end Go.Proofs.YtchinflkjcebjabGreatDoor
