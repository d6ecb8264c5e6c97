import Derived.Test.YtichbejmelkjeaaDoorcTx
import Derived.Lib.SlBytesConst
namespace Go.Proofs.YtichbejmelkjeaaDoor
open Go.RowKit

set_option maxRecDepth 100000 in
set_option maxHeartbeats 2000000 in
theorem response_zero (w : World) : Calls Tryd.prog 5 #[.agg #[.int .i64 0, .int .i64 0, .int .i64 0, .int .i64 0, .slice none 0 0]] w fun e w' => e = .returned (.string ⟨#[111, 107, 10]⟩) ∧ Below w.heap.size w w' := by
  obtain ⟨X1, hX1⟩ : ∃ X1, w.alloc (.cells #[.int .i64 0, .int .i64 0, .int .i64 0, .int .i64 0, .slice none 0 0] 28) = X1 := ⟨_, rfl⟩
  have b1 : Below w.heap.size w X1 := by rw [← hX1]; exact (Below.refl _ w).alloc (Nat.le_refl _) _
  have f1 : Full X1 w.heap.size 28 [.int .i64 0, .int .i64 0, .int .i64 0, .int .i64 0, .slice none 0 0] := by rw [← hX1]; exact Full.new w _ _
  have hcc := Lib.run_convert_bytes_const (P := Tryd.prog) X1 50 5 #[.int .u8 111, .int .u8 107, .int .u8 10] 3 3 Tryd.underlying50 Tryd.underlying5
  obtain ⟨X2, hX2⟩ : ∃ X2, X1.alloc (.cells #[.int .u8 111, .int .u8 107, .int .u8 10] 5) = X2 := ⟨_, rfl⟩
  obtain ⟨X3, hX3⟩ : ∃ X3, X1.alloc (.cells #[.int .u8 111, .int .u8 107, .int .u8 10] 5 ((#[.int .u8 111, .int .u8 107, .int .u8 10] : Array Value).size, (#[.int .u8 111, .int .u8 107, .int .u8 10] : Array Value).size + 1)) = X3 := ⟨_, rfl⟩
  rw [hX2, hX3] at hcc
  have n3 : Below X1.heap.size X1 X3 := by rw [← hX3]; exact (Below.refl _ X1).alloc (Nat.le_refl _) _
  have b3 : Below w.heap.size w X3 := b1.trans (n3.mono b1.size)
  have hX3h : X3.heap[X1.heap.size]? = some (.cells #[.int .u8 111, .int .u8 107, .int .u8 10] 5 ((#[.int .u8 111, .int .u8 107, .int .u8 10] : Array Value).size, (#[.int .u8 111, .int .u8 107, .int .u8 10] : Array Value).size + 1)) := by rw [← hX3]; exact heap_alloc_new X1 _
  have hc3 : ∀ j v, (#[.int .u8 111, .int .u8 107, .int .u8 10] : Array Value)[j]? = some v → X3.cell? ⟨X1.heap.size, j, none⟩ = some v := fun j v hv => by
    simp only [World.cell?, hX3h]
    exact hv
  have hcv := run_convert_bytes_back (P := Tryd.prog) X3 50 9 5 ⟨X1.heap.size, 0, none⟩ 3 [111, 107, 10] Tryd.underlying50 Tryd.underlying5 Tryd.underlying9 (fun j hj => by
    have hj3 : j = 0 ∨ j = 1 ∨ j = 2 := by simp at hj; omega
    rcases hj3 with rfl | rfl | rfl
    · exact hc3 0 _ rfl
    · exact hc3 1 _ rfl
    · exact hc3 2 _ rfl)
  obtain ⟨⟨c0, -⟩, ⟨c1, -⟩, ⟨c2, -⟩, ⟨c3, -⟩, ⟨c4, -⟩⟩ := (f1.next n3).cell5
  have HB : Hid (Below w.heap.size w X3) := b3
  simp only [List.length_cons, List.length_nil, Nat.zero_add, Nat.reduceAdd] at hcv
  clear b1 f1 n3 b3 hX3h hX3 hc3
  go_enter Tryd.func5, Tryd.ntmps5
  go_wp2
  go_loop [3, 21] (fun a i => a = .slice (some ⟨X1.heap.size, 0, none⟩) 3 3 ∧ i = .int .i64 0) (fun _ _ => 0)
  case atStart => exact ⟨rfl, rfl⟩
  case round =>
    obtain ⟨rfl, rfl⟩ := hrel
    go_wp2
    go_ret
    exact ⟨rfl, HB.out⟩
end Go.Proofs.YtichbejmelkjeaaDoor
namespace Go.Proofs.YtichbejmelkjeaaDoor
open Go.RowKit

theorem par_step : parP [115, 116, 101, 112] = some ⟨7, 0, 0, [], [], false, 0, []⟩ := by decide +kernel
theorem ln_goto : lnS ⟨15, 0, 0, [], [], false, -3, []⟩ = [103, 111, 116, 111, 32, 45, 51] := by
  first | decide +kernel | rfl
theorem par_goto : parP [103, 111, 116, 111, 32, 45, 51] = some ⟨15, 0, 0, [], [], false, -3, []⟩ := by
  first | decide +kernel | rfl
theorem ba_nil {a : ByteArray} (h : a.data.toList = []) : a = ⟨#[]⟩ := by
  cases a with
  | mk d => cases d with
    | mk l => simp only at h; rw [h]
set_option maxRecDepth 100000 in
theorem eql7 : ∀ w : World, (binOp BinOp.eql 39 (.agg #[.int .i64 7, .int .i64 0, .int .i64 0, .string ⟨#[]⟩, .string ⟨#[]⟩, .bool false, .int .i64 0, .string ⟨#[]⟩]) (.agg #[.int .i64 7, .int .i64 0, .int .i64 0, .string ⟨#[]⟩, .string ⟨#[]⟩, .bool false, .int .i64 0, .string ⟨#[]⟩])).run Tryd.prog w = .ok (.bool true) w := fun w => by simp [go_sem]

set_option maxRecDepth 100000 in
set_option maxHeartbeats 4000000 in
theorem lives_any (w : World) (hT : Tb w) : Calls Tryd.prog 6 #[] w fun e w' => e = .returned (.bool true) ∧ Below w.heap.size w w' := by
  have HP := parse_any ⟨#[115, 116, 101, 112]⟩ w hT
  have HT : Hid (Tb w) := hT
  have he := eql7
  clear hT
  go_enter Tryd.func6, Tryd.ntmps6
  go_wp2_with fail
  refine HP.mono ?_
  rintro e w2 ⟨k, a1, a2, a3, a4, a6, a7, er, rfl, hq⟩
  clear HP
  obtain ⟨hq1, hb2⟩ := hq.out
  rcases hq1 with ⟨rfl, hp⟩ | ⟨-, hp, -⟩
  rotate_left
  · exact absurd (par_step.symm.trans hp) (by simp)
  have hp2 := Option.some.inj (par_step.symm.trans hp)
  simp only [Cm.mk.injEq] at hp2
  obtain ⟨rfl, rfl, rfl, h3, h4, -, rfl, h7⟩ := hp2
  obtain rfl := ba_nil h3.symm
  obtain rfl := ba_nil h4.symm
  obtain rfl := ba_nil h7.symm
  clear hq hp h3 h4 h7
  have n3 : Below w2.heap.size w2 (w2.alloc (.cells #[.int .i64 7, .int .i64 0, .int .i64 0, .string ⟨#[]⟩, .string ⟨#[]⟩, .bool false, .int .i64 0, .string ⟨#[]⟩] 39)) := (Below.refl _ w2).alloc (Nat.le_refl _) _
  have b3 : Below w.heap.size w (w2.alloc (.cells #[.int .i64 7, .int .i64 0, .int .i64 0, .string ⟨#[]⟩, .string ⟨#[]⟩, .bool false, .int .i64 0, .string ⟨#[]⟩] 39)) := hb2.trans (n3.mono hb2.size)
  have f3 : Full (w2.alloc (.cells #[.int .i64 7, .int .i64 0, .int .i64 0, .string ⟨#[]⟩, .string ⟨#[]⟩, .bool false, .int .i64 0, .string ⟨#[]⟩] 39)) w2.heap.size 39 [.int .i64 7, .int .i64 0, .int .i64 0, .string ⟨#[]⟩, .string ⟨#[]⟩, .bool false, .int .i64 0, .string ⟨#[]⟩] := Full.new w2 _ _
  have HX := text_any 15 0 0 (-3) ⟨#[]⟩ ⟨#[]⟩ ⟨#[]⟩ false _ (HT.out.next b3) (by omega) (by omega) ⟨by decide, by decide, by decide⟩
  have HB3 : Hid (Below w.heap.size w (w2.alloc (.cells #[.int .i64 7, .int .i64 0, .int .i64 0, .string ⟨#[]⟩, .string ⟨#[]⟩, .bool false, .int .i64 0, .string ⟨#[]⟩] 39))) := b3
  have HF3 : Hid (Full (w2.alloc (.cells #[.int .i64 7, .int .i64 0, .int .i64 0, .string ⟨#[]⟩, .string ⟨#[]⟩, .bool false, .int .i64 0, .string ⟨#[]⟩] 39)) w2.heap.size 39 [.int .i64 7, .int .i64 0, .int .i64 0, .string ⟨#[]⟩, .string ⟨#[]⟩, .bool false, .int .i64 0, .string ⟨#[]⟩]) := f3
  clear n3 b3 f3 hb2 HT
  go_wp2_with fail
  refine HX.mono ?_
  rintro e w4 ⟨s, er, rfl, hq⟩
  clear HX
  obtain ⟨hq1, hb4⟩ := hq.out
  rcases hq1 with ⟨rfl, hs, hp⟩ | ⟨-, -, hp⟩
  rotate_left
  · exact absurd (by rw [show lnS ⟨15, 0, 0, ((⟨#[]⟩ : ByteArray)).data.toList, ((⟨#[]⟩ : ByteArray)).data.toList, false, -3, ((⟨#[]⟩ : ByteArray)).data.toList⟩ = [103, 111, 116, 111, 32, 45, 51] from ln_goto]; exact par_goto) hp
  have hsl : (s.toList == [103, 111, 116, 111, 32, 45, 51]) = true := by
    rw [Lx.toL, hs, show lnS ⟨15, 0, 0, ((⟨#[]⟩ : ByteArray)).data.toList, ((⟨#[]⟩ : ByteArray)).data.toList, false, -3, ((⟨#[]⟩ : ByteArray)).data.toList⟩ = [103, 111, 116, 111, 32, 45, 51] from ln_goto]; rfl
  obtain ⟨⟨c0, -⟩, ⟨c1, -⟩, ⟨c2, -⟩, ⟨c3, -⟩, ⟨c4, -⟩, ⟨c5, -⟩, ⟨c6, -⟩, ⟨c7, -⟩⟩ := (HF3.out.next hb4).cell8
  have HB4 : Hid (Below w.heap.size w w4) := HB3.out.trans (hb4.mono HB3.out.size)
  have HR := response_zero w4
  have hr : ((⟨#[111, 107, 10]⟩ : ByteArray).toList == [111, 107, 10]) = true := by rw [Lx.toL]; rfl
  clear hq hp hs hb4 HB3 HF3
  go_wp2_with fail
  refine HR.mono ?_
  rintro e w5 ⟨rfl, hb5⟩
  clear HR
  go_wp2
  go_ret
  exact ⟨rfl, HB4.out.trans (hb5.mono HB4.out.size)⟩
end Go.Proofs.YtichbejmelkjeaaDoor
