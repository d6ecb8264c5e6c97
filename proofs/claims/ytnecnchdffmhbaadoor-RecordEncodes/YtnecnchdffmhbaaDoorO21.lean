import Derived.Lib.QuietBelow
import Derived.Deep.DeepCutAuto
import Derived.Test.YtnecnchdffmhbaaDoorO20
import Derived.Test.YtnecnchdffmhbaaDoorO02
import Derived.Test.YtnecnchdffmhbaaDoorO17
namespace Go.Proofs.YtnecnchdffmhbaaDoor
open Go.RowKit

/-- The record that known lays. -/
def evK : List Ev := [⟨1, 3, [], 0, 0, []⟩, ⟨7, 4, [97], 1, -3, []⟩]
def rcK : Rc := ⟨1, 0, [120], 0, evK⟩
theorem encK : encS rcK = (fileL rcK, 0) := enc_of (by decide) (by decide) (by decide) (by decide)
theorem backK : decS (fileL rcK) = (rcK, 0) ∧ salS (fileL rcK) = (rcK, (fileL rcK).length, 0) := by
  have h := enc_dec rcK (by rw [encK]) (by
    intro e he
    unfold evIn
    simp only [rcK, evK, List.mem_cons, List.not_mem_nil, or_false] at he
    rcases he with rfl | rfl <;> decide)
  rw [encK] at h
  exact h
theorem lenK : 20 < (fileL rcK).length ∧ (fileL rcK).length ≤ 1000000 := by
  have h1 : (fileL rcK).length = 2 + (evF evK).length + (8 + (9 + 1)) := by
    unfold fileL
    rw [List.length_append, List.length_append, chS_len, lastL_len]
    rfl
  have h2 : (evF evK) = chS (bodyL evK) ++ evF [] := by
    have h := evF_cons (M := evK) (by decide)
    exact h
  have h3 : EvsOk evK := part_ok (L := evK) (by decide) (by
    intro e he
    simp only [evK, List.mem_cons, List.not_mem_nil, or_false] at he
    rcases he with rfl | rfl <;> decide) 0
  have h4 := body_le h3
  rw [h1, h2, evF_nil, List.append_nil, chS_len]
  omega
theorem rdK : ∀ e ∈ evK, EvSz e ∧ (-9223372036854775808 ≤ e.vn ∧ e.vn ≤ 9223372036854775807) := by
  intro e he
  unfold EvSz
  simp only [evK, List.mem_cons, List.not_mem_nil, or_false] at he
  rcases he with rfl | rfl <;> decide
/-- What is answered of that record's file. -/
theorem RcA.kn {B : Nat} {w : World} {v : Value} (h : RcA B w rcK v) : ∃ q c, v = .agg #[.int .i64 1, .int .i64 0, .string ⟨#[120]⟩, .int .i64 0, .slice q 2 c] ∧ Row w w.heap.size q evK.length (evK.flatMap ec) := by
  obtain ⟨nv, rfl, ho⟩ := h
  obtain ⟨q, c, rfl, -, hr⟩ := own_slice ho
  exact ⟨q, c, rfl, row_of_own ho⟩
set_option maxRecDepth 100000 in
set_option maxHeartbeats 4000000 in
theorem known_any (W : World) (hT : SumT W) : Calls Tryd.prog 12 #[] W fun e w' => e = .returned (.bool true) ∧ Below W.heap.size W w' := by
  obtain ⟨G, hG⟩ : ∃ G, W.heap.size = G := ⟨_, rfl⟩
  obtain ⟨X1, hX1⟩ : ∃ X, W.alloc (.cells #[.int .i64 1, .int .i64 3, .string ⟨#[]⟩, .int .i64 0, .int .i64 0, .string ⟨#[]⟩, .int .i64 7, .int .i64 4, .string ⟨#[97]⟩, .int .i64 1, .int .i64 (-3), .string ⟨#[]⟩] 54) = X := ⟨_, rfl⟩
  have b1 : Below W.heap.size W X1 := by rw [← hX1]; exact (Below.refl _ W).alloc (Nat.le_refl _) _
  have f1 : Full X1 G 54 (evK.flatMap ec) := by rw [← hX1, ← hG]; exact Full.new W _ _
  obtain ⟨R, hR⟩ : ∃ R, X1.heap.size = R := ⟨_, rfl⟩
  obtain ⟨X2, hX2⟩ : ∃ X, X1.alloc (.cells #[.int .i64 1, .int .i64 0, .string ⟨#[120]⟩, .int .i64 0, .slice (some ⟨G, 0, none⟩) 2 2] 28) = X := ⟨_, rfl⟩
  have n2 : Below X1.heap.size X1 X2 := by rw [← hX2]; exact (Below.refl _ _).alloc (Nat.le_refl _) _
  have b2 : Below W.heap.size W X2 := b1.trans (n2.mono b1.size)
  have f2 : Full X2 R 28 [.int .i64 1, .int .i64 0, .string ⟨#[120]⟩, .int .i64 0, .slice (some ⟨G, 0, none⟩) 2 2] := by rw [← hX2, ← hR]; exact Full.new X1 _ _
  have rg2 : X2.rangeAt G 0 (evK.flatMap ec) := fun j v hv => by
    have h := (f1.next n2).cell j v hv
    rw [Nat.zero_add]
    exact h.1
  have hrow : Row X2 X2.heap.size (some ⟨G, 0, none⟩) evK.length (evK.flatMap ec) := fun _ => ⟨G, 0, rfl, Nat.lt_of_lt_of_le f1.lt n2.size, rg2⟩
  have hin : RcIn X2 (some ⟨G, 0, none⟩) 2 evK := ⟨hrow, by decide, fun e he => (rdK e he).1, fun e he => (rdK e he).2, by decide⟩
  obtain ⟨fb, hfb⟩ : ∃ fb : ByteArray, (⟨(fileL rcK).toArray⟩ : ByteArray) = fb := ⟨_, rfl⟩
  have hfl : fb.data.toList = fileL rcK := by rw [← hfb]
  have hfs : 20 < fb.size ∧ fb.size ≤ 1000000 := by rw [Lib.size_eq, hfl]; exact lenK
  have HE : Calls Tryd.prog 10 #[.agg #[.int .i64 1, .int .i64 0, .string ⟨#[120]⟩, .int .i64 0, .slice (some ⟨G, 0, none⟩) 2 2]] X2 fun e w' => e = .returned (.tuple #[.string fb, .int .i64 0]) ∧ Below X2.heap.size X2 w' := by
    have h := encode_any X2 1 0 ⟨#[120]⟩ 0 (some ⟨G, 0, none⟩) 2 evK (hT.next b2) hin (by decide)
    refine h.mono fun e w' q => ?_
    obtain ⟨q1, q2⟩ := q
    refine ⟨q1.trans ?_, q2⟩
    show Ending.returned (.tuple #[.string ⟨(encS rcK).1.toArray⟩, .int .i64 (encS rcK).2]) = _
    rw [encK, ← hfb]
  have H2 : Hid (Below W.heap.size W X2 ∧ Full X2 R 28 [.int .i64 1, .int .i64 0, .string ⟨#[120]⟩, .int .i64 0, .slice (some ⟨G, 0, none⟩) 2 2] ∧ Row X2 X2.heap.size (some ⟨G, 0, none⟩) evK.length (evK.flatMap ec)) := ⟨b2, f2, hrow⟩
  have HF : Hid (fb.data.toList = fileL rcK) := hfl
  have HT : Hid (SumT W) := hT
  have q20 : (20 : Int) < (fb.size : Int) := by omega
  have qm : (fb.size : Int) ≤ 1000000 := by omega
  have hfb2 : fb.size ≤ 140737488355328 := by omega
  obtain ⟨⟨⟨r0, -⟩, ⟨r1, -⟩, r2, -⟩, ⟨r3, -⟩, r4, -⟩ := f2.five2
  clear b1 f1 n2 b2 f2 hrow hin hfb hfl hfs hT
  go_enter Tryd.func12, Tryd.ntmps12
  go_wp2_with fail
  refine HE.mono ?_
  rintro e w3 ⟨rfl, hb3⟩
  have H3 : Hid (Below W.heap.size W w3 ∧ Full w3 R 28 [.int .i64 1, .int .i64 0, .string ⟨#[120]⟩, .int .i64 0, .slice (some ⟨G, 0, none⟩) 2 2] ∧ Row w3 w3.heap.size (some ⟨G, 0, none⟩) evK.length (evK.flatMap ec)) := ⟨H2.out.1.trans (hb3.mono H2.out.1.size), H2.out.2.1.next hb3, (H2.out.2.2.below hb3 (Nat.le_refl _)).up hb3.size⟩
  have HD := decode_any w3 fb (HT.out.next H3.out.1) hfb2
  rw [HF.out, backK.1] at HD
  clear HE hb3 H2 r0 r1 r2 r3 r4 hX1 hX2
  go_wp2_with fail
  refine HD.mono ?_
  rintro e w4 ⟨⟨v, rfl, hv⟩, hb4⟩
  obtain ⟨qd, cd, rfl, hrd⟩ := hv.kn
  have H4 : Hid (Below W.heap.size W w4 ∧ Full w4 R 28 [.int .i64 1, .int .i64 0, .string ⟨#[120]⟩, .int .i64 0, .slice (some ⟨G, 0, none⟩) 2 2] ∧ Row w4 w4.heap.size (some ⟨G, 0, none⟩) evK.length (evK.flatMap ec)) := ⟨H3.out.1.trans (hb4.mono H3.out.1.size), H3.out.2.1.next hb4, (H3.out.2.2.below hb4 (Nat.le_refl _)).up hb4.size⟩
  obtain ⟨D, hD⟩ : ∃ D, w4.heap.size = D := ⟨_, rfl⟩
  obtain ⟨X4, hX4⟩ : ∃ X, w4.alloc (.cells #[.int .i64 1, .int .i64 0, .string ⟨#[120]⟩, .int .i64 0, .slice qd 2 cd] 28) = X := ⟨_, rfl⟩
  have n4 : Below w4.heap.size w4 X4 := by rw [← hX4]; exact (Below.refl _ _).alloc (Nat.le_refl _) _
  have f4 : Full X4 D 28 [.int .i64 1, .int .i64 0, .string ⟨#[120]⟩, .int .i64 0, .slice qd 2 cd] := by rw [← hX4, ← hD]; exact Full.new w4 _ _
  have H5 : Hid (Below W.heap.size W X4 ∧ Full X4 R 28 [.int .i64 1, .int .i64 0, .string ⟨#[120]⟩, .int .i64 0, .slice (some ⟨G, 0, none⟩) 2 2] ∧ Row X4 X4.heap.size (some ⟨G, 0, none⟩) evK.length (evK.flatMap ec) ∧ Full X4 D 28 [.int .i64 1, .int .i64 0, .string ⟨#[120]⟩, .int .i64 0, .slice qd 2 cd] ∧ Row X4 X4.heap.size qd evK.length (evK.flatMap ec)) := ⟨H4.out.1.trans (n4.mono H4.out.1.size), H4.out.2.1.next n4, (H4.out.2.2.below n4 (Nat.le_refl _)).up n4.size, f4, (hrd.below n4 (Nat.le_refl _)).up n4.size⟩
  have HS := salvage_any X4 fb (HT.out.next H5.out.1) hfb2
  rw [HF.out, backK.2] at HS
  clear HD hb4 hv hrd n4 f4 H4 H3
  go_wp2_with fail
  refine HS.mono ?_
  rintro e w6 ⟨⟨v, rfl, hv⟩, hb6⟩
  obtain ⟨qs, cs, rfl, hrs⟩ := hv.kn
  have hln : (((fileL rcK).length : Nat) : Int) = (fb.size : Int) := by rw [Lib.size_eq, HF.out]
  rw [hln]
  obtain ⟨S, hS⟩ : ∃ S, w6.heap.size = S := ⟨_, rfl⟩
  obtain ⟨X6, hX6⟩ : ∃ X, w6.alloc (.cells #[.int .i64 1, .int .i64 0, .string ⟨#[120]⟩, .int .i64 0, .slice qs 2 cs] 28) = X := ⟨_, rfl⟩
  have n6 : Below w6.heap.size w6 X6 := by rw [← hX6]; exact (Below.refl _ _).alloc (Nat.le_refl _) _
  have f6 : Full X6 S 28 [.int .i64 1, .int .i64 0, .string ⟨#[120]⟩, .int .i64 0, .slice qs 2 cs] := by rw [← hX6, ← hS]; exact Full.new w6 _ _
  have n56 : Below X4.heap.size X4 X6 := hb6.trans (n6.mono hb6.size)
  have H6 : Hid (Below W.heap.size W X6 ∧ Full X6 R 28 [.int .i64 1, .int .i64 0, .string ⟨#[120]⟩, .int .i64 0, .slice (some ⟨G, 0, none⟩) 2 2] ∧ Row X6 X6.heap.size (some ⟨G, 0, none⟩) evK.length (evK.flatMap ec) ∧ Full X6 D 28 [.int .i64 1, .int .i64 0, .string ⟨#[120]⟩, .int .i64 0, .slice qd 2 cd] ∧ Row X6 X6.heap.size qd evK.length (evK.flatMap ec) ∧ Full X6 S 28 [.int .i64 1, .int .i64 0, .string ⟨#[120]⟩, .int .i64 0, .slice qs 2 cs] ∧ Row X6 X6.heap.size qs evK.length (evK.flatMap ec)) := ⟨H5.out.1.trans (n56.mono H5.out.1.size), H5.out.2.1.next n56, (H5.out.2.2.1.below n56 (Nat.le_refl _)).up n56.size, H5.out.2.2.2.1.next n56, (H5.out.2.2.2.2.below n56 (Nat.le_refl _)).up n56.size, f6, (hrs.below n6 (Nat.le_refl _)).up n6.size⟩
  have HM : Calls Tryd.prog 17 #[.agg #[.int .i64 1, .int .i64 0, .string ⟨#[120]⟩, .int .i64 0, .slice qd 2 cd], .agg #[.int .i64 1, .int .i64 0, .string ⟨#[120]⟩, .int .i64 0, .slice (some ⟨G, 0, none⟩) 2 2]] X6 fun e w' => e = .returned (.bool true) ∧ Below X6.heap.size X6 w' := same_yes X6 1 0 ⟨#[120]⟩ 0 evK qd (some ⟨G, 0, none⟩) cd 2 H6.out.2.2.2.2.1 H6.out.2.2.1 (by decide)
  obtain ⟨⟨⟨r0, -⟩, ⟨r1, -⟩, r2, -⟩, ⟨r3, -⟩, r4, -⟩ := H6.out.2.1.five2
  obtain ⟨⟨⟨d0, -⟩, ⟨d1, -⟩, d2, -⟩, ⟨d3, -⟩, d4, -⟩ := H6.out.2.2.2.1.five2
  clear HS hb6 hv hrs n6 f6 n56 H5 hX4 hln
  go_wp2_with fail
  refine HM.mono ?_
  rintro e w7 ⟨rfl, hb7⟩
  have HM2 : Calls Tryd.prog 17 #[.agg #[.int .i64 1, .int .i64 0, .string ⟨#[120]⟩, .int .i64 0, .slice qs 2 cs], .agg #[.int .i64 1, .int .i64 0, .string ⟨#[120]⟩, .int .i64 0, .slice (some ⟨G, 0, none⟩) 2 2]] w7 fun e w' => e = .returned (.bool true) ∧ Below w7.heap.size w7 w' := same_yes w7 1 0 ⟨#[120]⟩ 0 evK qs (some ⟨G, 0, none⟩) cs 2 ((H6.out.2.2.2.2.2.2.below hb7 (Nat.le_refl _)).up hb7.size) ((H6.out.2.2.1.below hb7 (Nat.le_refl _)).up hb7.size) (by decide)
  have H7 : Hid (Below W.heap.size W w7) := H6.out.1.trans (hb7.mono H6.out.1.size)
  clear r0 r1 r2 r3 r4 d0 d1 d2 d3 d4 HM hX6
  obtain ⟨⟨⟨r0, -⟩, ⟨r1, -⟩, r2, -⟩, ⟨r3, -⟩, r4, -⟩ := (H6.out.2.1.next hb7).five2
  obtain ⟨⟨⟨d0, -⟩, ⟨d1, -⟩, d2, -⟩, ⟨d3, -⟩, d4, -⟩ := (H6.out.2.2.2.2.2.1.next hb7).five2
  clear hb7
  go_wp2_with fail
  refine HM2.mono ?_
  rintro e w8 ⟨rfl, hb8⟩
  have H8 : Hid (Below W.heap.size W w8) := H7.out.trans (hb8.mono H7.out.size)
  clear HM2 hb8 r0 r1 r2 r3 r4 d0 d1 d2 d3 d4 H6 H7
  go_wp2_with fail
  go_ret
  exact ⟨rfl, H8.out⟩
end Go.Proofs.YtnecnchdffmhbaaDoor

namespace Go.Proofs.YtnecnchdffmhbaaDoor
open Go.RowKit

theorem callKn (w : World) : (callFunc 12 #[]).run Tryd.prog w = .ok (.enter 12 #[]) w := by kernel_rfl
/-- A record that was answered, opened. -/
theorem RcA.op {B : Nat} {w : World} {rc : Rc} {v : Value} (h : RcA B w rc v) : ∃ (ob : ByteArray) (q : Option Addr) (c : Nat), v = .agg (recC rc.ph rc.tr ob rc.inp q rc.evs.length c) ∧ ob.data.toList = rc.out ∧ rc.evs.length ≤ c ∧ Row w w.heap.size q rc.evs.length (rc.evs.flatMap ec) := by
  obtain ⟨nv, rfl, ho⟩ := h
  obtain ⟨q, c, rfl, hc, -⟩ := own_slice ho
  obtain ⟨ob, hob⟩ : ∃ x : ByteArray, x.data.toList = rc.out := ⟨⟨rc.out.toArray⟩, rfl⟩
  refine ⟨ob, q, c, ?_, hob, hc, row_of_own ho⟩
  rw [sV_at hob]
/-- Encode, of a record that was answered. -/
theorem enc_rd (W : World) (rc : Rc) (hr : RcRd rc) (ob : ByteArray) (hob : ob.data.toList = rc.out) (q : Option Addr) (c : Nat) (hc : rc.evs.length ≤ c) (hrow : Row W W.heap.size q rc.evs.length (rc.evs.flatMap ec)) (hT : SumT W) :
    Calls Tryd.prog 10 #[.agg (recC rc.ph rc.tr ob rc.inp q rc.evs.length c)] W fun e w' => e = .returned (.tuple #[.string ⟨(encS rc).1.toArray⟩, .int .i64 (encS rc).2]) ∧ Below W.heap.size W w' := by
  have h := encode_any W rc.ph rc.tr ob rc.inp q c rc.evs hT ⟨hrow, hc, fun e he => (hr.ev e he).1, fun e he => (hr.ev e he).2, by have := hr.n; omega⟩ (by rw [Lib.size_eq, hob]; have := hr.out; omega)
  refine h.mono fun e w' k => ?_
  obtain ⟨k1, k2⟩ := k
  refine ⟨?_, k2⟩
  rw [k1, hob]
theorem ba_back (b : ByteArray) : (⟨b.data.toList.toArray⟩ : ByteArray) = b := ByteArray.ext (by simp)
theorem dec_err (l : List UInt8) : (decS l).2 = 0 ∨ (decS l).2 = 250 := by
  unfold decS
  split
  · exact .inr rfl
  · split
    · exact .inl rfl
    · exact .inr rfl
set_option maxRecDepth 100000 in
set_option maxHeartbeats 4000000 in
theorem only_any (W : World) (b : ByteArray) (hT : SumT W) (hb : b.size ≤ 140737488355328) : Calls Tryd.prog 3 #[.string b] W fun e w' => e = .returned (.bool true) ∧ Below W.heap.size W w' := by
  obtain ⟨l, hl⟩ : ∃ l, b.data.toList = l := ⟨_, rfl⟩
  have hln : l.length = b.size := by rw [← hl, Lib.size_eq]
  have HD := decode_any W b hT hb
  have hde := dec_enc l
  have hdr := dec_rd (b := l) (by omega)
  have hse := sal_enc l
  have hsr := sal_rd (b := l) (by omega)
  have hdx := dec_err l
  rw [hl] at HD
  generalize decS l = D at HD hde hdr hdx
  obtain ⟨rd, ed⟩ := D
  have HSv : Hid (∀ w, SumT w → Calls Tryd.prog 11 #[.string b] w fun e w' => (∃ v, e = .returned (.tuple #[v, .int .i64 ((salS l).2.1 : Int), .int .i64 (salS l).2.2]) ∧ RcA w.heap.size w' (salS l).1 v) ∧ Below w.heap.size w w') := fun w h => by
    have := salvage_any w b h hb
    rw [hl] at this
    exact this
  generalize salS l = S at hse hsr HSv
  obtain ⟨rs, nn, es⟩ := S
  simp only at HD hde hdr hdx hse hsr HSv
  have HT : Hid (SumT W) := hT
  have HDe : Hid ((ed = 0 → encS rd = (l, 0)) ∧ RcRd rd) := ⟨hde, hdr⟩
  have HSe : Hid (((es = 250 ∧ nn = 0 ∧ l.take 2 ≠ [82, 1]) ∨ (es = 0 ∧ (encS rs).2 = 0 ∧ 2 ≤ nn ∧ nn ≤ l.length ∧ nn ≤ (encS rs).1.length ∧ (encS rs).1.take nn = l.take nn)) ∧ RcRd rs) := ⟨hse, hsr⟩
  have HL : Hid (b.data.toList = l ∧ l.length = b.size ∧ b.size ≤ 140737488355328) := ⟨hl, hln, hb⟩
  have qb : (b.size : Int) ≤ 140737488355328 := by omega
  clear hT hde hdr hse hsr hl hln hb
  go_enter Tryd.func3, Tryd.ntmps3
  go_wp2_with fail
  refine HD.mono ?_
  rintro e w2 ⟨⟨v, rfl, hv⟩, hb2⟩
  obtain ⟨ob, qd, cd, rfl, hob, hcd, hrow⟩ := hv.op
  clear HD hv
  obtain ⟨nd, hnd⟩ : ∃ nd, rd.evs.length = nd := ⟨_, rfl⟩
  rw [hnd] at hcd hrow ⊢
  obtain ⟨A, hA⟩ : ∃ A, w2.heap.size = A := ⟨_, rfl⟩
  obtain ⟨X2, hX2⟩ : ∃ X, w2.alloc (.cells #[.int .i64 rd.ph, .int .i64 rd.tr, .string ob, .int .i64 rd.inp, .slice qd nd cd] 28) = X := ⟨_, rfl⟩
  have n2 : Below w2.heap.size w2 X2 := by rw [← hX2]; exact (Below.refl _ _).alloc (Nat.le_refl _) _
  have f2 : Full X2 A 28 [.int .i64 rd.ph, .int .i64 rd.tr, .string ob, .int .i64 rd.inp, .slice qd nd cd] := by rw [← hX2, ← hA]; exact Full.new w2 _ _
  have b2 : Below W.heap.size W X2 := hb2.trans (n2.mono hb2.size)
  have r2 : Row X2 X2.heap.size qd nd (rd.evs.flatMap ec) := (hrow.below n2 (Nat.le_refl _)).up n2.size
  have H2 : Hid (Below W.heap.size W X2 ∧ Full X2 A 28 [.int .i64 rd.ph, .int .i64 rd.tr, .string ob, .int .i64 rd.inp, .slice qd nd cd] ∧ Row X2 X2.heap.size qd nd (rd.evs.flatMap ec) ∧ rd.evs.length = nd ∧ nd ≤ cd ∧ ob.data.toList = rd.out) := ⟨b2, f2, r2, hnd, hcd, hob⟩
  clear n2 f2 b2 r2 hnd hcd hob hrow hb2
  unfold recC
  rcases hdx with rfl | rfl
  · have HE := enc_rd X2 rd HDe.out.2 ob H2.out.2.2.2.2.2 qd cd (by rw [H2.out.2.2.2.1]; exact H2.out.2.2.2.2.1) (by rw [H2.out.2.2.2.1]; exact H2.out.2.2.1) (HT.out.next H2.out.1)
    rw [H2.out.2.2.2.1, HDe.out.1 rfl, ← HL.out.1, ba_back] at HE
    unfold recC at HE
    obtain ⟨⟨⟨s0, -⟩, ⟨s1, -⟩, s2, -⟩, ⟨s3, -⟩, s4, -⟩ := H2.out.2.1.five2
    have q0 : (b.toList == b.toList) = true := beq_self_eq_true _
    go_wp2_with fail
    refine HE.mono ?_
    rintro e w3 ⟨rfl, hb3⟩
    have H3 : Hid (Below W.heap.size W w3) := H2.out.1.trans (hb3.mono H2.out.1.size)
    clear HE hb3 H2 hX2 s0 s1 s2 s3 s4
    have HS := HSv.out w3 (HT.out.next H3.out)
    clear HSv
    go_wp2_with fail
    refine HS.mono ?_
    rintro e w4 ⟨⟨v, rfl, hv⟩, hb4⟩
    obtain ⟨os, qs, cs, rfl, hos, hcs, hrow⟩ := hv.op
    clear HS hv
    obtain ⟨ns, hns⟩ : ∃ ns, rs.evs.length = ns := ⟨_, rfl⟩
    rw [hns] at hcs hrow ⊢
    obtain ⟨C, hC⟩ : ∃ C, w4.heap.size = C := ⟨_, rfl⟩
    obtain ⟨X4, hX4⟩ : ∃ X, w4.alloc (.cells #[.int .i64 rs.ph, .int .i64 rs.tr, .string os, .int .i64 rs.inp, .slice qs ns cs] 28) = X := ⟨_, rfl⟩
    have n4 : Below w4.heap.size w4 X4 := by rw [← hX4]; exact (Below.refl _ _).alloc (Nat.le_refl _) _
    have f4 : Full X4 C 28 [.int .i64 rs.ph, .int .i64 rs.tr, .string os, .int .i64 rs.inp, .slice qs ns cs] := by rw [← hX4, ← hC]; exact Full.new w4 _ _
    have b4 : Below W.heap.size W X4 := H3.out.trans ((hb4.trans (n4.mono hb4.size)).mono H3.out.size)
    have r4 : Row X4 X4.heap.size qs ns (rs.evs.flatMap ec) := (hrow.below n4 (Nat.le_refl _)).up n4.size
    have H4 : Hid (Below W.heap.size W X4 ∧ Full X4 C 28 [.int .i64 rs.ph, .int .i64 rs.tr, .string os, .int .i64 rs.inp, .slice qs ns cs] ∧ Row X4 X4.heap.size qs ns (rs.evs.flatMap ec) ∧ rs.evs.length = ns ∧ ns ≤ cs ∧ os.data.toList = rs.out) := ⟨b4, f4, r4, hns, hcs, hos⟩
    clear n4 f4 b4 r4 hns hcs hos hrow hb4
    unfold recC
    rcases HSe.out.1 with ⟨rfl, rfl, hne⟩ | ⟨rfl, he0, hn2, hnl, hnc, htk⟩
    · have HK := known_any X4 (HT.out.next H4.out.1)
      by_cases h2 : b.size < 2
      · have q2 : (b.size : Int) < 2 := by omega
        clear h2 hne HSe HDe
        go_wp2_with fail
        refine HK.mono ?_
        rintro e w5 ⟨rfl, hb5⟩
        have H5 : Hid (Below W.heap.size W w5) := H4.out.1.trans (hb5.mono H4.out.1.size)
        clear HK hb5 H4 hX4
        go_wp2_with fail
        go_ret
        exact ⟨rfl, H5.out⟩
      · have q2 : ¬ (b.size : Int) < 2 := by omega
        obtain ⟨t2, ht2⟩ : ∃ x : ByteArray, x.data.toList = b.data.toList.take 2 := ⟨⟨(b.data.toList.take 2).toArray⟩, rfl⟩
        have R1 : ∀ wx : World, (Instr.slice 9 (.string b) none (some (.int .i64 2)) none).run Tryd.prog wx = .ok (.string t2) wx := sl_to (s := b) (x := t2) (k := 2) (by omega) ht2
        have HNq : Hid ((t2.toList == [82, 1]) = false) := by
          show (t2.toList == [82, 1]) = false
          rw [toL, ht2, HL.out.1]
          exact beq_eq_false_iff_ne.2 hne
        have hnq : (t2.toList == [82, 1]) = false := HNq.out
        have hnr : ¬ t2.toList = [82, 1] := by rw [toL, ht2, HL.out.1]; exact hne
        clear h2 hne ht2 HSe HDe
        go_wp2_with fail
        refine HK.mono ?_
        rintro e w5 ⟨rfl, hb5⟩
        have H5 : Hid (Below W.heap.size W w5) := H4.out.1.trans (hb5.mono H4.out.1.size)
        clear HK hb5 H4 hX4
        go_wp2_with fail
        go_ret
        exact ⟨rfl, H5.out⟩
    · have HE := enc_rd X4 rs HSe.out.2 os H4.out.2.2.2.2.2 qs cs (by rw [H4.out.2.2.2.1]; exact H4.out.2.2.2.2.1) (by rw [H4.out.2.2.2.1]; exact H4.out.2.2.1) (HT.out.next H4.out.1)
      rw [H4.out.2.2.2.1, he0] at HE
      obtain ⟨cb, hcb⟩ : ∃ x : ByteArray, (⟨(encS rs).1.toArray⟩ : ByteArray) = x := ⟨_, rfl⟩
      have hcl : cb.data.toList = (encS rs).1 := by rw [← hcb]
      rw [hcb] at HE
      have hcs2 : cb.size = (encS rs).1.length := by rw [Lib.size_eq, hcl]
      obtain ⟨tn, htn⟩ : ∃ x : ByteArray, x.data.toList = b.data.toList.take nn := ⟨⟨(b.data.toList.take nn).toArray⟩, rfl⟩
      have hnb : nn ≤ b.size := by have := HL.out.2.1; omega
      have R1 := sl_to (s := b) (x := tn) (k := nn) hnb htn
      have R2 := sl_to (s := cb) (x := tn) (k := nn) (by omega) (by rw [htn, hcl, HL.out.1, htk])
      have q1 : ¬ (nn : Int) < 2 := by omega
      have q2 : ¬ (b.size : Int) < (nn : Int) := by omega
      have q3 : ¬ (cb.size : Int) < (nn : Int) := by omega
      have q4 : (tn.toList == tn.toList) = true := beq_self_eq_true _
      unfold recC at HE
      obtain ⟨⟨⟨s0, -⟩, ⟨s1, -⟩, s2, -⟩, ⟨s3, -⟩, s4, -⟩ := H4.out.2.1.five2
      clear he0 hn2 hnl hnc htk hcb hcl hcs2 htn hnb HSe HDe
      go_wp2_with fail
      refine HE.mono ?_
      rintro e w5 ⟨rfl, hb5⟩
      have H5 : Hid (Below W.heap.size W w5) := H4.out.1.trans (hb5.mono H4.out.1.size)
      clear HE hb5 H4 hX4 s0 s1 s2 s3 s4
      go_upto_region 12 with fail
      have p1 : ∀ d os, Calls Tryd.prog 12 #[] (Sort.grow (redrawn w5 d) os) fun e w'' => e = .returned (.bool true) ∧ ∃ p : Regrown, w'' = Sort.grow (redrawn w5 p.d) p.os := fun d os => Calls.regrown_of (known_any _ ((HT.out.next H5.out).next (below_regrown w5 d os)))
      refine wp_region_quiet_below (by kernel_rfl) (by kernel_rfl) ?_
      repeat (first | go_big_quiet_step (first | with_reducible exact p1 _ _) | quiet_step (first | with_reducible exact p1 _ _))
      refine wpQuiet_nil ?_
      intro _ hw'
      obtain ⟨⟨dq, osq⟩, hw''⟩ := hw'
      subst hw''
      have hY := below_regrown w5 dq osq
      first | (change Exit.then _ _ Exit.normal _ (Sort.grow (redrawn w5 dq) osq)) | skip
      generalize Sort.grow (redrawn w5 dq) osq = Y5 at hY ⊢
      clear p1
      go_wp2
      go_ret
      exact ⟨rfl, H5.out.trans (hY.mono H5.out.size)⟩
  · have H3 : Hid (Below W.heap.size W X2) := H2.out.1
    clear H2
    have HS := HSv.out X2 (HT.out.next H3.out)
    clear HSv
    go_wp2_with fail
    refine HS.mono ?_
    rintro e w4 ⟨⟨v, rfl, hv⟩, hb4⟩
    obtain ⟨os, qs, cs, rfl, hos, hcs, hrow⟩ := hv.op
    clear HS hv
    obtain ⟨ns, hns⟩ : ∃ ns, rs.evs.length = ns := ⟨_, rfl⟩
    rw [hns] at hcs hrow ⊢
    obtain ⟨C, hC⟩ : ∃ C, w4.heap.size = C := ⟨_, rfl⟩
    obtain ⟨X4, hX4⟩ : ∃ X, w4.alloc (.cells #[.int .i64 rs.ph, .int .i64 rs.tr, .string os, .int .i64 rs.inp, .slice qs ns cs] 28) = X := ⟨_, rfl⟩
    have n4 : Below w4.heap.size w4 X4 := by rw [← hX4]; exact (Below.refl _ _).alloc (Nat.le_refl _) _
    have f4 : Full X4 C 28 [.int .i64 rs.ph, .int .i64 rs.tr, .string os, .int .i64 rs.inp, .slice qs ns cs] := by rw [← hX4, ← hC]; exact Full.new w4 _ _
    have b4 : Below W.heap.size W X4 := H3.out.trans ((hb4.trans (n4.mono hb4.size)).mono H3.out.size)
    have r4 : Row X4 X4.heap.size qs ns (rs.evs.flatMap ec) := (hrow.below n4 (Nat.le_refl _)).up n4.size
    have H4 : Hid (Below W.heap.size W X4 ∧ Full X4 C 28 [.int .i64 rs.ph, .int .i64 rs.tr, .string os, .int .i64 rs.inp, .slice qs ns cs] ∧ Row X4 X4.heap.size qs ns (rs.evs.flatMap ec) ∧ rs.evs.length = ns ∧ ns ≤ cs ∧ os.data.toList = rs.out) := ⟨b4, f4, r4, hns, hcs, hos⟩
    clear n4 f4 b4 r4 hns hcs hos hrow hb4
    unfold recC
    rcases HSe.out.1 with ⟨rfl, rfl, hne⟩ | ⟨rfl, he0, hn2, hnl, hnc, htk⟩
    · have HK := known_any X4 (HT.out.next H4.out.1)
      by_cases h2 : b.size < 2
      · have q2 : (b.size : Int) < 2 := by omega
        clear h2 hne HSe HDe
        go_wp2_with fail
        refine HK.mono ?_
        rintro e w5 ⟨rfl, hb5⟩
        have H5 : Hid (Below W.heap.size W w5) := H4.out.1.trans (hb5.mono H4.out.1.size)
        clear HK hb5 H4 hX4
        go_wp2_with fail
        go_ret
        exact ⟨rfl, H5.out⟩
      · have q2 : ¬ (b.size : Int) < 2 := by omega
        obtain ⟨t2, ht2⟩ : ∃ x : ByteArray, x.data.toList = b.data.toList.take 2 := ⟨⟨(b.data.toList.take 2).toArray⟩, rfl⟩
        have R1 : ∀ wx : World, (Instr.slice 9 (.string b) none (some (.int .i64 2)) none).run Tryd.prog wx = .ok (.string t2) wx := sl_to (s := b) (x := t2) (k := 2) (by omega) ht2
        have HNq : Hid ((t2.toList == [82, 1]) = false) := by
          show (t2.toList == [82, 1]) = false
          rw [toL, ht2, HL.out.1]
          exact beq_eq_false_iff_ne.2 hne
        have hnq : (t2.toList == [82, 1]) = false := HNq.out
        have hnr : ¬ t2.toList = [82, 1] := by rw [toL, ht2, HL.out.1]; exact hne
        clear h2 hne ht2 HSe HDe
        go_wp2_with fail
        refine HK.mono ?_
        rintro e w5 ⟨rfl, hb5⟩
        have H5 : Hid (Below W.heap.size W w5) := H4.out.1.trans (hb5.mono H4.out.1.size)
        clear HK hb5 H4 hX4
        go_wp2_with fail
        go_ret
        exact ⟨rfl, H5.out⟩
    · have HE := enc_rd X4 rs HSe.out.2 os H4.out.2.2.2.2.2 qs cs (by rw [H4.out.2.2.2.1]; exact H4.out.2.2.2.2.1) (by rw [H4.out.2.2.2.1]; exact H4.out.2.2.1) (HT.out.next H4.out.1)
      rw [H4.out.2.2.2.1, he0] at HE
      obtain ⟨cb, hcb⟩ : ∃ x : ByteArray, (⟨(encS rs).1.toArray⟩ : ByteArray) = x := ⟨_, rfl⟩
      have hcl : cb.data.toList = (encS rs).1 := by rw [← hcb]
      rw [hcb] at HE
      have hcs2 : cb.size = (encS rs).1.length := by rw [Lib.size_eq, hcl]
      obtain ⟨tn, htn⟩ : ∃ x : ByteArray, x.data.toList = b.data.toList.take nn := ⟨⟨(b.data.toList.take nn).toArray⟩, rfl⟩
      have hnb : nn ≤ b.size := by have := HL.out.2.1; omega
      have R1 := sl_to (s := b) (x := tn) (k := nn) hnb htn
      have R2 := sl_to (s := cb) (x := tn) (k := nn) (by omega) (by rw [htn, hcl, HL.out.1, htk])
      have q1 : ¬ (nn : Int) < 2 := by omega
      have q2 : ¬ (b.size : Int) < (nn : Int) := by omega
      have q3 : ¬ (cb.size : Int) < (nn : Int) := by omega
      have q4 : (tn.toList == tn.toList) = true := beq_self_eq_true _
      unfold recC at HE
      obtain ⟨⟨⟨s0, -⟩, ⟨s1, -⟩, s2, -⟩, ⟨s3, -⟩, s4, -⟩ := H4.out.2.1.five2
      clear he0 hn2 hnl hnc htk hcb hcl hcs2 htn hnb HSe HDe
      go_wp2_with fail
      refine HE.mono ?_
      rintro e w5 ⟨rfl, hb5⟩
      have H5 : Hid (Below W.heap.size W w5) := H4.out.1.trans (hb5.mono H4.out.1.size)
      clear HE hb5 H4 hX4 s0 s1 s2 s3 s4
      go_upto_region 12 with fail
      have p1 : ∀ d os, Calls Tryd.prog 12 #[] (Sort.grow (redrawn w5 d) os) fun e w'' => e = .returned (.bool true) ∧ ∃ p : Regrown, w'' = Sort.grow (redrawn w5 p.d) p.os := fun d os => Calls.regrown_of (known_any _ ((HT.out.next H5.out).next (below_regrown w5 d os)))
      refine wp_region_quiet_below (by kernel_rfl) (by kernel_rfl) ?_
      repeat (first | go_big_quiet_step (first | with_reducible exact p1 _ _) | quiet_step (first | with_reducible exact p1 _ _))
      refine wpQuiet_nil ?_
      intro _ hw'
      obtain ⟨⟨dq, osq⟩, hw''⟩ := hw'
      subst hw''
      have hY := below_regrown w5 dq osq
      first | (change Exit.then _ _ Exit.normal _ (Sort.grow (redrawn w5 dq) osq)) | skip
      generalize Sort.grow (redrawn w5 dq) osq = Y5 at hY ⊢
      clear p1
      go_wp2
      go_ret
      exact ⟨rfl, H5.out.trans (hY.mono H5.out.size)⟩
end Go.Proofs.YtnecnchdffmhbaaDoor
