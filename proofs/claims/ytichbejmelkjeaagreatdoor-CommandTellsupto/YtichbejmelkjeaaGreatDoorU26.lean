import Derived.Lib.SlBytesConst
import Derived.Test.YtichbejmelkjeaaGreatDoorU25
import Derived.Test.YtichbejmelkjeaaGreatDoorU15
import Derived.Test.YtichbejmelkjeaaGreatDoorU24
namespace Go.Proofs.YtichbejmelkjeaaGreatDoor
open Go.RowKit

theorem join_any (ws : List (List UInt8)) (w : World) (q : Option Addr) (cap : Nat) (h : (ws = [] ∧ q = none) ∨ ∃ G, q = some ⟨G, 0, none⟩ ∧ w.rangeAt G 0 (ws.map sV) ∧ ws.length ≤ cap ∧ G < w.heap.size) (hn : ws.length ≤ 10) (hlen : (Lib.join ws [32]).length ≤ 10000000000) :
    Calls Tryz.prog 29 #[.slice q ws.length cap, .string ⟨#[32]⟩] w fun e w' => ∃ s : ByteArray, e = .returned (.string s) ∧ s.data.toList = Lib.join ws [32] ∧ Below w.heap.size w w' := by
  rcases h with ⟨rfl, rfl⟩ | ⟨G, rfl, hr, hle, hG⟩
  · refine Calls.mono (Tryz.strings_Join_none none cap ⟨#[32]⟩ w) ?_
    rintro e w' ⟨rfl, rfl⟩
    exact ⟨_, rfl, rfl, Below.refl _ _⟩
  · obtain ⟨xs, hxs⟩ : ∃ xs : List ByteArray, xs.map (·.data.toList) = ws := ⟨ws.map fun l => ⟨l.toArray⟩, by rw [List.map_map]; exact (List.map_congr_left (fun _ _ => rfl)).trans (List.map_id ws)⟩
    have hl : ws.length = xs.length := by rw [← hxs, List.length_map]
    rw [hl]
    have HJ := Tryz.strings_Join G 0 cap xs ⟨#[32]⟩ w (fun j x hx => by
      have := hr j (.string x) (by rw [← hxs, List.map_map, List.getElem?_map, hx]; rfl)
      exact this) hG (by omega) (by omega) (by rw [hxs]; exact Nat.le_trans hlen (by decide))
    rw [hxs] at HJ
    refine Calls.mono HJ ?_
    rintro e w' ⟨rfl, hb⟩
    exact ⟨_, rfl, rfl, hb⟩
theorem wrS_few (c : Cm) : (wrS c).length ≤ 10 := by
  unfold wrS
  split
  · simp
  · rw [List.length_cons]
    split
    · unfold pwS; rw [List.length_cons]; by_cases h : c.cond = [] <;> simp [h]
    · split
      · simp
      · split <;> simp
end Go.Proofs.YtichbejmelkjeaaGreatDoor

namespace Go.Proofs.YtichbejmelkjeaaGreatDoor
open Go.RowKit

set_option maxRecDepth 100000 in
set_option maxHeartbeats 4000000 in
theorem text_any (kd pk ln nn : Int) (nm cd tx : ByteArray) (off : Bool) (w : World) (hT : Tb w) (hl : -9223372036854775808 ≤ ln ∧ ln ≤ 9223372036854775807) (hn : -9223372036854775808 ≤ nn ∧ nn ≤ 9223372036854775807) (hs : nm.size ≤ 1000000000 ∧ cd.size ≤ 1000000000 ∧ tx.size ≤ 1000000000) :
    Calls Tryz.prog 15 #[.agg #[.int .i64 kd, .int .i64 pk, .int .i64 ln, .string nm, .string cd, .bool off, .int .i64 nn, .string tx]] w (TxP w ⟨kd, pk, ln, nm.data.toList, cd.data.toList, off, nn, tx.data.toList⟩) := by
  obtain ⟨c, hc⟩ : ∃ c : Cm, c = ⟨kd, pk, ln, nm.data.toList, cd.data.toList, off, nn, tx.data.toList⟩ := ⟨_, rfl⟩
  obtain ⟨X1, hX1⟩ : ∃ X1, w.alloc (.cells #[.int .i64 kd, .int .i64 pk, .int .i64 ln, .string nm, .string cd, .bool off, .int .i64 nn, .string tx] 51) = X1 := ⟨_, rfl⟩
  have b1 : Below w.heap.size w X1 := by rw [← hX1]; exact (Below.refl _ w).alloc (Nat.le_refl _) _
  have f1 : Full X1 w.heap.size 51 [.int .i64 kd, .int .i64 pk, .int .i64 ln, .string nm, .string cd, .bool off, .int .i64 nn, .string tx] := by rw [← hX1]; exact Full.new w _ _
  obtain ⟨⟨e0, -⟩, ⟨e1, -⟩, ⟨e2, -⟩, ⟨e3, -⟩, ⟨e4, -⟩, ⟨e5, -⟩, ⟨e6, -⟩, ⟨e7, -⟩⟩ := f1.cell8
  have HF : Hid (∀ W, Below X1.heap.size X1 W → Full W w.heap.size 51 [.int .i64 kd, .int .i64 pk, .int .i64 ln, .string nm, .string cd, .bool off, .int .i64 nn, .string tx] ∧ Below w.heap.size w W ∧ Tb W) := fun W h => ⟨f1.next h, b1.trans (h.mono b1.size), hT.next (b1.trans (h.mono b1.size))⟩
  have HC := written_any kd pk ln nn nm cd tx off X1 (hT.next b1) hl hn
  have hlen : (lnS c).length ≤ 2 * 1000000000 + 100 := by
    have z1 := Lib.size_eq nm; have z2 := Lib.size_eq cd; have z3 := Lib.size_eq tx
    refine wrS_len c 1000000000 ?_ ?_ ?_ ?_ ?_ <;> rw [hc]
    · show nm.data.toList.length ≤ _; omega
    · show cd.data.toList.length ≤ _; omega
    · show tx.data.toList.length ≤ _; omega
    · exact hl
    · exact hn
  rw [← hc] at HC ⊢
  have HCc : Hid (c = ⟨kd, pk, ln, nm.data.toList, cd.data.toList, off, nn, tx.data.toList⟩) := hc
  clear hT b1 f1 hl hn hs hc
  go_enter Tryz.func15, Tryz.ntmps15
  go_wp2_with fail
  refine HC.mono ?_
  rintro e w2 ⟨q, cap, rfl, hq⟩
  clear HC
  have HJ := join_any (wrS c) w2 q cap hq.out.1 (wrS_few c) (Nat.le_trans hlen (by decide))
  have hb2 : Below X1.heap.size X1 w2 := hq.out.2
  clear hq
  obtain ⟨nw, hnw⟩ : ∃ nw, (wrS c).length = nw := ⟨_, rfl⟩
  rw [hnw] at HJ ⊢
  clear hnw
  go_wp2_with fail
  refine HJ.mono ?_
  rintro e w3 ⟨s, rfl, hsl0, hb3⟩
  have hsl : s.data.toList = lnS c := hsl0
  clear hsl0
  clear HJ
  have hb13 : Below X1.heap.size X1 w3 := hb2.trans (hb3.mono hb2.size)
  have HP := parse_any s w3 (HF.out w3 hb13).2.2
  rw [hsl] at HP
  have hssz : s.size ≤ 2 * 1000000000 + 100 := by rw [Lib.size_eq, hsl]; exact hlen
  have HS : Hid (s.data.toList = lnS c) := hsl
  clear hsl hlen hb2 hb3
  go_wp2_with fail
  refine HP.mono ?_
  rintro e w4 ⟨k, a1, a2, a3, a4, a6, a7, er, rfl, hq4⟩
  clear HP
  have hb14 : Below X1.heap.size X1 w4 := hb13.trans (hq4.out.2.mono hb13.size)
  obtain ⟨W5, hW5⟩ : ∃ W5, w4.alloc (.cells #[.int .i64 k, .int .i64 a1, .int .i64 a2, .string a3, .string a4, .bool false, .int .i64 a6, .string a7] 51) = W5 := ⟨_, rfl⟩
  have n5 : Below X1.heap.size X1 W5 := by rw [← hW5]; exact hb14.alloc hb14.size _
  have f5 : Full W5 w4.heap.size 51 [.int .i64 k, .int .i64 a1, .int .i64 a2, .string a3, .string a4, .bool false, .int .i64 a6, .string a7] := by rw [← hW5]; exact Full.new w4 _ _
  obtain ⟨⟨r0, -⟩, ⟨r1, -⟩, ⟨r2, -⟩, ⟨r3, -⟩, ⟨r4, -⟩, ⟨r5, -⟩, ⟨r6, -⟩, ⟨r7, -⟩⟩ := f5.cell8
  obtain ⟨gF, h5b, -⟩ := HF.out W5 n5
  obtain ⟨⟨g0, -⟩, ⟨g1, -⟩, ⟨g2, -⟩, ⟨g3, -⟩, ⟨g4, -⟩, ⟨g5, -⟩, ⟨g6, -⟩, ⟨g7, -⟩⟩ := gF.cell8
  have HB5 : Hid (Below w.heap.size w W5) := h5b
  have HCl : Hid (Calls Tryz.prog 31 #[.string s] W5 fun e w' => e = .returned (.string s) ∧ Below W5.heap.size W5 w') := Lx.clone_any s W5 (by omega)
  have hne := neq8 k a1 a2 a3 a4 false a6 a7 kd pk ln nm cd off nn tx
  have hiff := eq8_iff k a1 a2 a3 a4 false a6 a7 kd pk ln nm cd off nn tx
  rw [← HCc.out] at hiff
  have HQ : Hid _ := hq4.out.1
  clear hq4 hb13 hb14 n5 f5 gF h5b HF HCc
  generalize eq8 k a1 a2 a3 a4 false a6 a7 kd pk ln nm cd off nn tx = bq at hne hiff
  subst hW5
  rcases HQ.out with ⟨rfl, hp⟩ | ⟨rfl, hp, -, -, -, -, -, -, -⟩
  · cases bq with
    | true =>
      have HR : Hid (parP (lnS c) = some c) := by
        show parP (lnS c) = some c
        rw [hp, hiff.1 rfl]
      clear hp hiff HQ
      go_wp2_with fail
      refine HCl.out.mono ?_
      rintro e w6 ⟨rfl, hb6⟩
      clear HCl
      go_wp2
      go_ret2
      unfold TxP
      exact ⟨s, 0, rfl, .inl ⟨rfl, HS.out, HR.out⟩, HB5.out.trans (hb6.mono HB5.out.size)⟩
    | false =>
      have HR : Hid (parP (lnS c) ≠ some c) := by
        show parP (lnS c) ≠ some c
        rw [hp]
        intro h
        cases hiff.2 (Option.some.inj h)
      clear hp hiff HQ HCl
      go_wp2
      go_ret2
      unfold TxP
      exact ⟨⟨#[]⟩, 1, rfl, .inr ⟨rfl, rfl, HR.out⟩, HB5.out⟩
  · have HR : Hid (parP (lnS c) ≠ some c) := by
      show parP (lnS c) ≠ some c
      rw [hp]; simp
    clear hp hiff HQ HCl
    go_wp2
    go_ret2
    unfold TxP
    exact ⟨⟨#[]⟩, 1, rfl, .inr ⟨rfl, rfl, HR.out⟩, HB5.out⟩
end Go.Proofs.YtichbejmelkjeaaGreatDoor

namespace Go.Proofs.YtichbejmelkjeaaGreatDoor
open Go.RowKit

set_option maxRecDepth 100000 in
set_option maxHeartbeats 2000000 in
theorem response_zero (w : World) : Calls Tryz.prog 10 #[.agg #[.int .i64 0, .int .i64 0, .int .i64 0, .int .i64 0, .slice none 0 0]] w fun e w' => e = .returned (.string ⟨#[111, 107, 10]⟩) ∧ Below w.heap.size w w' := by
  obtain ⟨X1, hX1⟩ : ∃ X1, w.alloc (.cells #[.int .i64 0, .int .i64 0, .int .i64 0, .int .i64 0, .slice none 0 0] 38) = X1 := ⟨_, rfl⟩
  have b1 : Below w.heap.size w X1 := by rw [← hX1]; exact (Below.refl _ w).alloc (Nat.le_refl _) _
  have f1 : Full X1 w.heap.size 38 [.int .i64 0, .int .i64 0, .int .i64 0, .int .i64 0, .slice none 0 0] := by rw [← hX1]; exact Full.new w _ _
  have hcc := Lib.run_convert_bytes_const (P := Tryz.prog) X1 62 5 #[.int .u8 111, .int .u8 107, .int .u8 10] 3 3 Tryz.underlying62 Tryz.underlying5
  obtain ⟨X2, hX2⟩ : ∃ X2, X1.alloc (.cells #[.int .u8 111, .int .u8 107, .int .u8 10] 5) = X2 := ⟨_, rfl⟩
  obtain ⟨X3, hX3⟩ : ∃ X3, X1.alloc (.cells #[.int .u8 111, .int .u8 107, .int .u8 10] 5 ((#[.int .u8 111, .int .u8 107, .int .u8 10] : Array Value).size, (#[.int .u8 111, .int .u8 107, .int .u8 10] : Array Value).size + 1)) = X3 := ⟨_, rfl⟩
  rw [hX2, hX3] at hcc
  have n3 : Below X1.heap.size X1 X3 := by rw [← hX3]; exact (Below.refl _ X1).alloc (Nat.le_refl _) _
  have b3 : Below w.heap.size w X3 := b1.trans (n3.mono b1.size)
  have hX3h : X3.heap[X1.heap.size]? = some (.cells #[.int .u8 111, .int .u8 107, .int .u8 10] 5 ((#[.int .u8 111, .int .u8 107, .int .u8 10] : Array Value).size, (#[.int .u8 111, .int .u8 107, .int .u8 10] : Array Value).size + 1)) := by rw [← hX3]; exact heap_alloc_new X1 _
  have hc3 : ∀ j v, (#[.int .u8 111, .int .u8 107, .int .u8 10] : Array Value)[j]? = some v → X3.cell? ⟨X1.heap.size, j, none⟩ = some v := fun j v hv => by
    simp only [World.cell?, hX3h]
    exact hv
  have hcv := run_convert_bytes_back (P := Tryz.prog) X3 62 9 5 ⟨X1.heap.size, 0, none⟩ 3 [111, 107, 10] Tryz.underlying62 Tryz.underlying5 Tryz.underlying9 (fun j hj => by
    have hj3 : j = 0 ∨ j = 1 ∨ j = 2 := by simp at hj; omega
    rcases hj3 with rfl | rfl | rfl
    · exact hc3 0 _ rfl
    · exact hc3 1 _ rfl
    · exact hc3 2 _ rfl)
  obtain ⟨⟨c0, -⟩, ⟨c1, -⟩, ⟨c2, -⟩, ⟨c3, -⟩, ⟨c4, -⟩⟩ := (f1.next n3).cell5
  have HB : Hid (Below w.heap.size w X3) := b3
  simp only [List.length_cons, List.length_nil, Nat.zero_add, Nat.reduceAdd] at hcv
  clear b1 f1 n3 b3 hX3h hX3 hc3
  go_enter Tryz.func10, Tryz.ntmps10
  go_wp2
  go_loop [3, 21] (fun a i => a = .slice (some ⟨X1.heap.size, 0, none⟩) 3 3 ∧ i = .int .i64 0) (fun _ _ => 0)
  case atStart => exact ⟨rfl, rfl⟩
  case round =>
    obtain ⟨rfl, rfl⟩ := hrel
    go_wp2
    go_ret
    exact ⟨rfl, HB.out⟩
end Go.Proofs.YtichbejmelkjeaaGreatDoor

namespace Go.Proofs.YtichbejmelkjeaaGreatDoor
open Go.RowKit

theorem par_step : parP [115, 116, 101, 112] = some ⟨7, 0, 0, [], [], false, 0, []⟩ := by decide +kernel
theorem ln_goto : lnS ⟨15, 0, 0, [], [], false, -3, []⟩ = [103, 111, 116, 111, 32, 45, 51] := by
  first | decide +kernel | rfl
theorem par_goto : parP [103, 111, 116, 111, 32, 45, 51] = some ⟨15, 0, 0, [], [], false, -3, []⟩ := by
  first | decide +kernel | rfl
theorem ba_nil {a : ByteArray} (h : a.data.toList = []) : a = ⟨#[]⟩ := by
  cases a with
  | mk d => cases d with
    | mk l => simp only at h; rw [h]
set_option maxRecDepth 100000 in
theorem eql7 : ∀ w : World, (binOp BinOp.eql 51 (.agg #[.int .i64 7, .int .i64 0, .int .i64 0, .string ⟨#[]⟩, .string ⟨#[]⟩, .bool false, .int .i64 0, .string ⟨#[]⟩]) (.agg #[.int .i64 7, .int .i64 0, .int .i64 0, .string ⟨#[]⟩, .string ⟨#[]⟩, .bool false, .int .i64 0, .string ⟨#[]⟩])).run Tryz.prog w = .ok (.bool true) w := fun w => by simp [go_sem]

set_option maxRecDepth 100000 in
set_option maxHeartbeats 4000000 in
theorem lives_any (w : World) (hT : Tb w) : Calls Tryz.prog 12 #[] w fun e w' => e = .returned (.bool true) ∧ Below w.heap.size w w' := by
  have HP := parse_any ⟨#[115, 116, 101, 112]⟩ w hT
  have HT : Hid (Tb w) := hT
  have he := eql7
  clear hT
  go_enter Tryz.func12, Tryz.ntmps12
  go_wp2_with fail
  refine HP.mono ?_
  rintro e w2 ⟨k, a1, a2, a3, a4, a6, a7, er, rfl, hq⟩
  clear HP
  obtain ⟨hq1, hb2⟩ := hq.out
  rcases hq1 with ⟨rfl, hp⟩ | ⟨-, hp, -⟩
  rotate_left
  · exact absurd (par_step.symm.trans hp) (by simp)
  have hp2 := Option.some.inj (par_step.symm.trans hp)
  simp only [Cm.mk.injEq] at hp2
  obtain ⟨rfl, rfl, rfl, h3, h4, -, rfl, h7⟩ := hp2
  obtain rfl := ba_nil h3.symm
  obtain rfl := ba_nil h4.symm
  obtain rfl := ba_nil h7.symm
  clear hq hp h3 h4 h7
  have n3 : Below w2.heap.size w2 (w2.alloc (.cells #[.int .i64 7, .int .i64 0, .int .i64 0, .string ⟨#[]⟩, .string ⟨#[]⟩, .bool false, .int .i64 0, .string ⟨#[]⟩] 51)) := (Below.refl _ w2).alloc (Nat.le_refl _) _
  have b3 : Below w.heap.size w (w2.alloc (.cells #[.int .i64 7, .int .i64 0, .int .i64 0, .string ⟨#[]⟩, .string ⟨#[]⟩, .bool false, .int .i64 0, .string ⟨#[]⟩] 51)) := hb2.trans (n3.mono hb2.size)
  have f3 : Full (w2.alloc (.cells #[.int .i64 7, .int .i64 0, .int .i64 0, .string ⟨#[]⟩, .string ⟨#[]⟩, .bool false, .int .i64 0, .string ⟨#[]⟩] 51)) w2.heap.size 51 [.int .i64 7, .int .i64 0, .int .i64 0, .string ⟨#[]⟩, .string ⟨#[]⟩, .bool false, .int .i64 0, .string ⟨#[]⟩] := Full.new w2 _ _
  have HX := text_any 15 0 0 (-3) ⟨#[]⟩ ⟨#[]⟩ ⟨#[]⟩ false _ (HT.out.next b3) (by omega) (by omega) ⟨by decide, by decide, by decide⟩
  have HB3 : Hid (Below w.heap.size w (w2.alloc (.cells #[.int .i64 7, .int .i64 0, .int .i64 0, .string ⟨#[]⟩, .string ⟨#[]⟩, .bool false, .int .i64 0, .string ⟨#[]⟩] 51))) := b3
  have HF3 : Hid (Full (w2.alloc (.cells #[.int .i64 7, .int .i64 0, .int .i64 0, .string ⟨#[]⟩, .string ⟨#[]⟩, .bool false, .int .i64 0, .string ⟨#[]⟩] 51)) w2.heap.size 51 [.int .i64 7, .int .i64 0, .int .i64 0, .string ⟨#[]⟩, .string ⟨#[]⟩, .bool false, .int .i64 0, .string ⟨#[]⟩]) := f3
  clear n3 b3 f3 hb2 HT
  go_wp2_with fail
  refine HX.mono ?_
  rintro e w4 ⟨s, er, rfl, hq⟩
  clear HX
  obtain ⟨hq1, hb4⟩ := hq.out
  rcases hq1 with ⟨rfl, hs, hp⟩ | ⟨-, -, hp⟩
  rotate_left
  · exact absurd (by rw [show lnS ⟨15, 0, 0, ((⟨#[]⟩ : ByteArray)).data.toList, ((⟨#[]⟩ : ByteArray)).data.toList, false, -3, ((⟨#[]⟩ : ByteArray)).data.toList⟩ = [103, 111, 116, 111, 32, 45, 51] from ln_goto]; exact par_goto) hp
  have hsl : (s.toList == [103, 111, 116, 111, 32, 45, 51]) = true := by
    rw [Lx.toL, hs, show lnS ⟨15, 0, 0, ((⟨#[]⟩ : ByteArray)).data.toList, ((⟨#[]⟩ : ByteArray)).data.toList, false, -3, ((⟨#[]⟩ : ByteArray)).data.toList⟩ = [103, 111, 116, 111, 32, 45, 51] from ln_goto]; rfl
  obtain ⟨⟨c0, -⟩, ⟨c1, -⟩, ⟨c2, -⟩, ⟨c3, -⟩, ⟨c4, -⟩, ⟨c5, -⟩, ⟨c6, -⟩, ⟨c7, -⟩⟩ := (HF3.out.next hb4).cell8
  have HB4 : Hid (Below w.heap.size w w4) := HB3.out.trans (hb4.mono HB3.out.size)
  have HR := response_zero w4
  have hr : ((⟨#[111, 107, 10]⟩ : ByteArray).toList == [111, 107, 10]) = true := by rw [Lx.toL]; rfl
  clear hq hp hs hb4 HB3 HF3
  go_wp2_with fail
  refine HR.mono ?_
  rintro e w5 ⟨rfl, hb5⟩
  clear HR
  go_wp2
  go_ret
  exact ⟨rfl, HB4.out.trans (hb5.mono HB4.out.size)⟩
end Go.Proofs.YtichbejmelkjeaaGreatDoor
