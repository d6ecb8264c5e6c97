import Derived.Test.YtdmiciblfbkndaaDoorA17
import Derived.Test.YtdmiciblfbkndaaDoorA15
import Derived.Test.YtdmiciblfbkndaaDoorA05
import Derived.Test.YtdmiciblfbkndaaDoorA11
import Derived.Test.YtdmiciblfbkndaaDoorA13
import Derived.Test.YtdmiciblfbkndaaDoorA02
namespace Go.Proofs.YtdmiciblfbkndaaDoor
open Go.RowKit

theorem evF_cons {M : List Ev} (h : M ≠ []) : evF M = chS (bodyL (M.take 64)) ++ evF (M.drop 64) := by
  unfold evF
  rw [cks_cons h]
  rfl
theorem part_ok {L : List Ev} (h1 : L.all evOk = true) (h2 : ∀ e ∈ L, -9223372036854775808 ≤ e.vn ∧ e.vn ≤ 9223372036854775807) (k : Nat) : EvsOk ((L.drop k).take 64) :=
  ⟨fun e he => by
    have hm : e ∈ L := List.mem_of_mem_drop (List.mem_of_mem_take he)
    exact ⟨List.all_eq_true.1 h1 e hm, h2 e hm⟩, by rw [List.length_take]; omega⟩
theorem body_le {p : List Ev} (h : EvsOk p) : (bodyL p).length ≤ 25601 := by
  obtain ⟨-, -, h3⟩ := body_mid p h p.length (Nat.le_refl _)
  rw [List.take_length] at h3
  have := h.2
  show (1 :: evsL 0 [] p).length ≤ _
  rw [List.length_cons]
  omega
theorem ec_flat (l : List Ev) : (l.flatMap ec).length = l.length * 6 := by
  induction l with
  | nil => rfl
  | cons e l ih => rw [List.flatMap_cons, List.length_append, ec_len, ih, List.length_cons]; omega
/-- A part of a row of events. -/
theorem row_part {w : World} {g o : Nat} {L : List Ev} (h : w.rangeAt g o (L.flatMap ec)) (k : Nat) (hk : k ≤ L.length) : w.rangeAt g (o + k * 6) (((L.drop k).take 64).flatMap ec) := by
  intro j v hv
  have hl : ((L.take k).flatMap ec).length = k * 6 := by
    rw [ec_flat, List.length_take, Nat.min_eq_left hk]
  have e : L.flatMap ec = (L.take k).flatMap ec ++ (((L.drop k).take 64).flatMap ec ++ ((L.drop k).drop 64).flatMap ec) := by
    rw [← List.flatMap_append, List.take_append_drop, ← List.flatMap_append, List.take_append_drop]
  have hv2 : (L.flatMap ec)[k * 6 + j]? = some v := by
    rw [e, List.getElem?_append_right (by omega), hl, Nat.add_sub_cancel_left, List.getElem?_append_left (List.getElem?_eq_some_iff.1 hv).1]
    exact hv
  have := h (k * 6 + j) v hv2
  rw [Nat.add_assoc]
  exact this
/-- Where Encode stands among the parts: what is written, and what is left. -/
structure EnD (L : List Ev) (k : Nat) (D : List UInt8) : Prop where
  cat : [82, 1] ++ evF L = D ++ evF (L.drop (64 * k))
  len : D.length ≤ 2 + 25609 * k
theorem EnD.zero (L : List Ev) : EnD L 0 [82, 1] := ⟨rfl, by decide⟩
theorem EnD.go {L : List Ev} {k : Nat} {D : List UInt8} (h : EnD L k D) (h1 : L.all evOk = true) (h2 : ∀ e ∈ L, -9223372036854775808 ≤ e.vn ∧ e.vn ≤ 9223372036854775807) (hk : 64 * k < L.length) : EnD L (k + 1) (D ++ chS (bodyL ((L.drop (64 * k)).take 64))) := by
  have hne : L.drop (64 * k) ≠ [] := fun e => by
    have := congrArg List.length e
    rw [List.length_drop] at this
    simp at this
    omega
  refine ⟨?_, ?_⟩
  · rw [h.cat, evF_cons hne, List.drop_drop, List.append_assoc]
    rfl
  · have := h.len
    have := body_le (part_ok h1 h2 (64 * k))
    rw [List.length_append, chS_len]
    omega
theorem EnD.end_ {L : List Ev} {k : Nat} {D : List UInt8} (h : EnD L k D) (hk : L.length ≤ 64 * k) : D = [82, 1] ++ evF L := by
  have := h.cat
  rw [List.drop_of_length_le hk, evF_nil, List.append_nil] at this
  exact this.symm
/-! The builder of bytes. -/
theorem strCells_bytes (s : ByteArray) : Lib.strCells s = Lib.byteCells s.data.toList := by
  simp [Lib.strCells, Lib.byteCells]
theorem IsB.of {B b : Nat} {l r : List UInt8} {bs : List Value} {w : World} (h : BAt B b bs w) (e : bs = Lib.byteCells (l ++ r)) : IsB B b (l ++ r) w := by
  subst e
  exact .inr h
theorem bw_any {B b : Nat} {l : List UInt8} (s : ByteArray) {w : World} (h : IsB B b l w) (hlen : l.length + s.size ≤ 140737488355328) (hBw : B ≤ w.heap.size) :
    Calls Tryd.prog 33 #[.pointer (some ⟨b, 0, none⟩), .string s] w fun e w' => (∃ v, e = .returned v) ∧ Hid (IsB B b (l ++ s.data.toList) w' ∧ Below B w w' ∧ OthB b w w') :=
  (wrS_any B b _ s w h (by rw [Lib.byteCells_length]; exact hlen) hBw).mono fun _ _ q => ⟨q.1, IsB.of q.2.1 (by rw [strCells_bytes]; simp [Lib.byteCells]), q.2.2⟩
theorem bat_same {B b : Nat} {p : Value} {bs : List Value} {w w' : World} (h : Lib.BuilderAt 77 5 B b p bs w) (hb : w'.heap[b]? = w.heap[b]?) (hk : ∀ v g, w.heap[b]? = some (.cells #[p, v] 77 (0, 0)) → v.ownBlock = some g → w.ownsRow B 5 1 v bs.length bs → w'.heap[g]? = w.heap[g]?) : Lib.BuilderAt 77 5 B b p bs w' := by
  obtain ⟨hB, v, hbk, hown, hne⟩ := h
  exact ⟨hB, v, hb.trans hbk, own_same hown fun g hg => hk v g hbk hg hown, hne⟩
theorem bat_lt {B b : Nat} {p : Value} {bs : List Value} {w : World} (h : Lib.BuilderAt 77 5 B b p bs w) : b < w.heap.size := by
  obtain ⟨-, v, hbk, -⟩ := h
  exact (Array.getElem?_eq_some_iff.1 hbk).1
theorem IsB.next {B b : Nat} {l : List UInt8} {w w' : World} (h : IsB B b l w) (hb : Below w.heap.size w w') : IsB B b l w' := by
  rcases h with h | h
  · exact .inl (bat_same h (hb.block b (bat_lt h)) fun v g _ hg ho => hb.block g (own_blk ho g hg).lt)
  · exact .inr (bat_same h (hb.block b (bat_lt h)) fun v g _ hg ho => hb.block g (own_blk ho g hg).lt)
theorem not_row {W W' : World} {row : Option Nat} {g : Nat} {t : TypeId} {cur : Array Value} {fz : Nat × Nat} (hg : W.grownBy W' row) (hr : ∀ r, row = some r → ∃ o : Obj, W.heap[r]? = some o ∧ o.isCells = false) (h : W.heap[g]? = some (.cells cur t fz)) : W'.heap[g]? = W.heap[g]? :=
  hg.block g (Array.getElem?_eq_some_iff.1 h).1 fun e => by
    obtain ⟨o, h1, h2⟩ := hr g e.symm
    rw [h] at h1
    rw [← Option.some.inj h1] at h2
    cases h2
theorem IsB.grown {B b : Nat} {l : List UInt8} {W W' : World} {row : Option Nat} (h : IsB B b l W) (hg : W.grownBy W' row) (hr : ∀ r, row = some r → ∃ o : Obj, W.heap[r]? = some o ∧ o.isCells = false) : IsB B b l W' := by
  have key : ∀ {p : Value} {bs : List Value}, Lib.BuilderAt 77 5 B b p bs W → Lib.BuilderAt 77 5 B b p bs W' := fun h => by
    have hb : W'.heap[b]? = W.heap[b]? := by
      obtain ⟨-, v, hbk, -⟩ := h
      exact not_row hg hr hbk
    exact bat_same h hb fun v g _ hgb ho => by
      obtain ⟨cur, hv, -⟩ := own_blk ho g hgb
      exact not_row hg hr hv
  rcases h with h | h
  · exact .inl (key h)
  · exact .inr (key h)
/-- What a write at a builder keeps. -/
theorem keeps_othB {B b : Nat} {l : List UInt8} {W W' : World} (hi : IsB B b l W) (h : OthB b W W') (hs : W.heap.size ≤ W'.heap.size) : KeepsOthers W W' :=
  ⟨hs, fun k o hk ho => h k o hk (fun e => by
    cases e
    rcases hi with hi | hi
    all_goals
      obtain ⟨-, v, hbk, -⟩ := hi
      rw [hbk] at hk
      rw [← Option.some.inj hk] at ho
      cases ho) (fun c fz e => by rw [e] at ho; cases ho)⟩
/-- .. and a block of another type. -/
theorem OthB.full {b : Nat} {W W' : World} {g : Nat} {t : TypeId} {vs : List Value} (h : OthB b W W') (f : Full W g t vs) (hg : g ≠ b) (ht : t ≠ 5) : Full W' g t vs :=
  h g _ f (fun e => hg (Option.some.inj e)) (fun c fz e => ht (by cases e; rfl))
end Go.Proofs.YtdmiciblfbkndaaDoor

namespace Go.Proofs.YtdmiciblfbkndaaDoor
open Go.RowKit

set_option maxRecDepth 100000 in
set_option maxHeartbeats 1000000 in
theorem rnum_any (W : World) (n : Nat) (hn : n < 18446744073709551616) :
    Calls Tryd.prog 42 #[.int .u64 (n : Int)] W fun e w' => e = .returned (.string ⟨(numS n).toArray⟩) ∧ Below W.heap.size W w' := by
  go_enter Tryd.func42, Tryd.ntmps42
  go_wp2_with fail
  go_loopw [0, 3] (fun x b wr => ∃ (m : Nat) (s : ByteArray), x = .int .u64 (m : Int) ∧ b = .string s ∧ m < 18446744073709551616 ∧ Hid (s.data.toList ++ numS m = numS n ∧ Below W.heap.size W wr)) (fun x _ _ => (intOf x).toNat)
  case atStart => exact ⟨n, ⟨#[]⟩, rfl, rfl, hn, rfl, Below.refl _ _⟩
  case round =>
    obtain ⟨m, s, rfl, rfl, hm, HI⟩ := hrel
    have hs : s.size ≤ 10 := by
      have h1 := congrArg List.length HI.out.1
      rw [List.length_append] at h1
      have h2 := numS_le10 n hn
      rw [Lib.size_eq]
      omega
    by_cases hend : m < 128
    · have x1 : ¬ 128 ≤ (m : Int) := by omega
      obtain ⟨c, hc⟩ : ∃ c, UInt8.ofNat m = c := ⟨_, rfl⟩
      have hcn : (m : Int) = (c.toNat : Int) := by rw [← hc, UInt8.toNat_ofNat']; omega
      obtain ⟨s1, hs1⟩ : ∃ s1, (⟨#[c]⟩ : ByteArray) = s1 := ⟨_, rfl⟩
      have z1 : s1.size = 1 := by rw [← hs1]; rfl
      have y1 : ¬ 9223372036854775807 < s.size + s1.size := by omega
      have RC := convB wr (m : Int) c hcn
      rw [hs1] at RC
      have HN : Hid (s ++ s1 = ⟨(numS n).toArray⟩ ∧ Below W.heap.size W (wr.alloc (.cells #[.int .u8 (m : Int)] 5))) := by
        refine ⟨ba_of ?_, ?_⟩
        · rw [cat_list, ← hs1, ← HI.out.1, numS_small hend, hc]
        · exact HI.out.2.trans (((Below.refl _ wr).alloc (Nat.le_refl _) _).mono HI.out.2.size)
      clear HI hc hs1 hcn
      go_wp2
      go_ret
      exact ⟨congrArg (fun x => Ending.returned (.string x)) HN.out.1, HN.out.2⟩
    · have x1 : 128 ≤ (m : Int) := by omega
      obtain ⟨r, hr⟩ : ∃ r, m % 128 = r := ⟨_, rfl⟩
      have hri : (m : Int) % 128 = (r : Int) := by omega
      have hrl : r < 128 := by omega
      obtain ⟨c, hc⟩ : ∃ c, UInt8.ofNat (r + 128) = c := ⟨_, rfl⟩
      have hcn : 128 + (r : Int) = (c.toNat : Int) := by rw [← hc, UInt8.toNat_ofNat']; omega
      obtain ⟨s1, hs1⟩ : ∃ s1, (⟨#[c]⟩ : ByteArray) = s1 := ⟨_, rfl⟩
      have z1 : s1.size = 1 := by rw [← hs1]; rfl
      have y1 : ¬ 9223372036854775807 < s.size + s1.size := by omega
      have RC := convB wr (128 + (r : Int)) c hcn
      rw [hs1] at RC
      have HN : Hid ((s ++ s1).data.toList ++ numS (m / 128) = numS n ∧ Below W.heap.size W (wr.alloc (.cells #[.int .u8 (128 + (r : Int))] 5))) := by
        refine ⟨?_, ?_⟩
        · rw [cat_list, ← hs1, ← HI.out.1, numS_big hend, hr, hc, List.append_assoc]
          rfl
        · exact HI.out.2.trans (((Below.refl _ wr).alloc (Nat.le_refl _) _).mono HI.out.2.size)
      clear HI hc hs1 hcn hr
      go_wp2
      exact ⟨⟨m / 128, s ++ s1, by go_num, rfl, by omega, HN⟩, by simp [intOf]; omega⟩
set_option maxRecDepth 100000 in
set_option maxHeartbeats 1000000 in
theorem rsgn_any (W : World) (n : Int) (hn : -9223372036854775808 ≤ n ∧ n ≤ 9223372036854775807) :
    Calls Tryd.prog 40 #[.int .i64 n] W fun e w' => e = .returned (.string ⟨(sgnS n).toArray⟩) ∧ Below W.heap.size W w' := by
  have HC : ∀ x : Int, x = (zz n : Int) → Calls Tryd.prog 42 #[.int .u64 x] W fun e w' => e = .returned (.string ⟨(sgnS n).toArray⟩) ∧ Below W.heap.size W w' := by
    rintro x rfl
    exact rnum_any W (zz n) (zz_lt n hn)
  have hn0 := hn.1
  have hn1 := hn.2
  have hzz : (zz n : Int) = if n < 0 then 2 * (-(n + 1)) + 1 else 2 * n := by unfold zz; split <;> omega
  go_enter Tryd.func40, Tryd.ntmps40
  by_cases h0 : n < 0
  · rw [if_pos h0] at hzz
    go_wp2_with fail
    refine (HC _ (by rw [hzz]; first | done | omega | (simp only [IntKind.wrap_i64, IntKind.wrap_u64]; omega))).mono ?_
    rintro e w3 ⟨rfl, hb3⟩
    clear HC
    go_wp2_with fail
    go_ret
    exact ⟨rfl, hb3⟩
  · rw [if_neg h0] at hzz
    go_wp2_with fail
    refine (HC _ (by rw [hzz]; first | done | omega | (simp only [IntKind.wrap_i64, IntKind.wrap_u64]; omega))).mono ?_
    rintro e w3 ⟨rfl, hb3⟩
    clear HC
    go_wp2_with fail
    go_ret
    exact ⟨rfl, hb3⟩
end Go.Proofs.YtdmiciblfbkndaaDoor

namespace Go.Proofs.YtdmiciblfbkndaaDoor
open Go.RowKit

theorem fxS_one (n : Nat) : fxS n 1 = [UInt8.ofNat n] := by simp [fxS]
set_option maxRecDepth 100000 in
set_option maxHeartbeats 1000000 in
theorem rval_any (W : World) (vk vn : Int) (vs : ByteArray) (hok : valOk vk vn vs.data.toList = true) (hvn : -9223372036854775808 ≤ vn ∧ vn ≤ 9223372036854775807) :
    Calls Tryd.prog 43 #[.agg #[.int .i64 vk, .int .i64 vn, .string vs]] W fun e w' => e = .returned (.string ⟨(vlS vk vn vs.data.toList).toArray⟩) ∧ Below W.heap.size W w' := by
  have hb1 : Below W.heap.size W (W.alloc (.cells #[.int .i64 vk, .int .i64 vn, .string vs] 35)) := (Below.refl _ W).alloc (Nat.le_refl _) _
  have hsz : vs.size = vs.data.toList.length := Lib.size_eq vs
  have hk := valOk_kind hok
  have hk : vk = 0 ∨ vk = 1 ∨ vk = 2 ∨ vk = 3 ∨ vk = 4 := by omega
  have HB1 : Hid (Below W.heap.size W (W.alloc (.cells #[.int .i64 vk, .int .i64 vn, .string vs] 35))) := hb1
  rcases hk with rfl | rfl | rfl | rfl | rfl
  · clear hb1
    go_enter Tryd.func43, Tryd.ntmps43
    go_wp2_with fail
    go_ret
    exact ⟨rfl, HB1.out⟩
  · have HC := rsgn_any (W.alloc (.cells #[.int .i64 1, .int .i64 vn, .string vs] 35)) vn hvn
    clear hb1
    go_enter Tryd.func43, Tryd.ntmps43
    go_wp2_with fail
    refine HC.mono ?_
    rintro e w3 ⟨rfl, hb3⟩
    have HB3 : Hid (Below W.heap.size W w3) := below2 HB1.out hb3
    clear HC hb3 HB1
    go_wp2_with fail
    go_ret
    exact ⟨rfl, HB3.out⟩
  · have hv : vn = 0 ∨ vn = 1 := by
      unfold valOk at hok
      simp at hok
      omega
    have HC := wide_any (W.alloc (.cells #[.int .i64 2, .int .i64 vn, .string vs] 35)) vn.toNat 1 (by omega) (by decide)
    rw [fxS_one, Int.toNat_of_nonneg (by omega)] at HC
    have hv0 : 0 ≤ vn := by omega
    have hv1 : vn ≤ 1 := by omega
    clear hb1 hok hv
    go_enter Tryd.func43, Tryd.ntmps43
    go_wp2_with fail
    refine HC.mono ?_
    rintro e w3 ⟨rfl, hb3⟩
    have HB3 : Hid (Below W.heap.size W w3) := below2 HB1.out hb3
    clear HC hb3 HB1
    go_wp2_with fail
    go_ret
    exact ⟨rfl, HB3.out⟩
  · have hv : vs.size ≤ 256 := by
      unfold valOk at hok
      simp at hok
      omega
    have HC := fun os d => rnum_any (Sort.grow (redrawn (W.alloc (.cells #[.int .i64 3, .int .i64 vn, .string vs] 35)) d) os) vs.size (by omega)
    obtain ⟨s1, hs1⟩ : ∃ s1, (⟨(numS vs.size).toArray⟩ : ByteArray) = s1 := ⟨_, rfl⟩
    rw [hs1] at HC
    have z1 : s1.size ≤ 10 := by rw [← hs1, ba_size]; exact numS_le10 _ (by omega)
    have qv : (vs.size : Int) ≤ 256 := by omega
    have qv0 : (0 : Int) ≤ (vs.size : Int) := by omega
    have y1 : s1.size + vs.size ≤ 9223372036854775807 := by omega
    have HV : Hid (s1 ++ vs = ⟨(vlS 3 vn vs.data.toList).toArray⟩) := by
      apply ba_of
      rw [cat_list, ← hs1, hsz]
      rfl
    have p1 : ∀ d os, Calls Tryd.prog 42 #[.int .u64 (vs.size : Int)] (Sort.grow (redrawn (W.alloc (.cells #[.int .i64 3, .int .i64 vn, .string vs] 35)) d) os) fun e w'' => e = .returned (.string s1) ∧ ∃ p : Regrown, w'' = Sort.grow (redrawn (W.alloc (.cells #[.int .i64 3, .int .i64 vn, .string vs] 35)) p.d) p.os := fun d os => Calls.regrown_of (HC os d)
    have f1 : Full (W.alloc (.cells #[.int .i64 3, .int .i64 vn, .string vs] 35)) W.heap.size 35 [.int .i64 3, .int .i64 vn, .string vs] := Full.new W _ _
    obtain ⟨X, hX⟩ : ∃ X, W.alloc (.cells #[.int .i64 3, .int .i64 vn, .string vs] 35) = X := ⟨_, rfl⟩
    rw [hX] at p1 f1 HB1
    have i2 := cell_regrown (f1.cell 2 _ rfl).1
    have c0 := (f1.cell 0 _ rfl).1
    clear hb1 hok HC hs1 z1 f1 hsz
    go_enter Tryd.func43, Tryd.ntmps43
    go_upto_region 7 with fail
    refine wp_region_quiet_below (by kernel_rfl) (by kernel_rfl) ?_
    repeat (first | go_big_quiet_step (first | with_reducible exact p1 _ _) | quiet_step (first | with_reducible exact p1 _ _))
    refine wpQuiet_nil ?_
    intro _ hw'
    obtain ⟨⟨dq, osq⟩, hw''⟩ := hw'
    subst hw''
    have hY := below_regrown X dq osq
    first | (change Exit.then _ _ Exit.normal _ (Sort.grow (redrawn X dq) osq)) | skip
    generalize Sort.grow (redrawn X dq) osq = Y8 at hY ⊢
    clear p1 i2 c0
    go_wp2
    go_ret
    exact ⟨congrArg (fun x => Ending.returned (.string x)) HV.out, HB1.out.trans (hY.mono HB1.out.size)⟩
  · have hv : 0 ≤ vn := by
      unfold valOk at hok
      simp at hok
      omega
    have HC := rnum_any (W.alloc (.cells #[.int .i64 4, .int .i64 vn, .string vs] 35)) vn.toNat (by omega)
    rw [Int.toNat_of_nonneg (by omega)] at HC
    clear hb1 hok
    go_enter Tryd.func43, Tryd.ntmps43
    go_wp2_with fail
    refine HC.mono ?_
    rintro e w3 ⟨rfl, hb3⟩
    have HB3 : Hid (Below W.heap.size W w3) := below2 HB1.out hb3
    clear HC hb3 HB1
    go_wp2_with fail
    go_ret
    exact ⟨rfl, HB3.out⟩
end Go.Proofs.YtdmiciblfbkndaaDoor

namespace Go.Proofs.YtdmiciblfbkndaaDoor
open Go.RowKit

set_option maxRecDepth 100000 in
set_option maxHeartbeats 1000000 in
theorem rlast_any (W : World) (ph tr : Int) (out : ByteArray) (inp : Int) (q : Option Addr) (n cap : Nat) (evs : List Ev) (hn : evs.length = n) (h4 : n < 4294967296) (he : endOk ph tr inp = true) (hs : out.size ≤ 1000000000) :
    Calls Tryd.prog 16 #[.agg (recC ph tr out inp q n cap)] W fun e w' => e = .returned (.string ⟨(lastL ⟨ph, tr, out.data.toList, inp, evs⟩).toArray⟩) ∧ Below W.heap.size W w' := by
  unfold recC
  have hep : (0 ≤ ph ∧ ph ≤ 2) ∧ (0 ≤ tr ∧ tr ≤ 7) ∧ 0 ≤ inp ∧ inp ≤ 1000 := by
    unfold endOk at he
    simp only [Bool.and_eq_true, Bool.or_eq_true, decide_eq_true_eq, beq_iff_eq] at he
    omega
  obtain ⟨h1, h2, h3⟩ := hep
  obtain ⟨X2, hX2⟩ : ∃ X2, W.alloc (.cells #[.int .i64 ph, .int .i64 tr, .string out, .int .i64 inp, .slice q n cap] 28) = X2 := ⟨_, rfl⟩
  have f1 : Full X2 W.heap.size 28 [.int .i64 ph, .int .i64 tr, .string out, .int .i64 inp, .slice q n cap] := by
    rw [← hX2]
    exact Full.new W #[.int .i64 ph, .int .i64 tr, .string out, .int .i64 inp, .slice q n cap] 28
  have HB2 : Hid (Below W.heap.size W X2) := by rw [← hX2]; exact (Below.refl _ W).alloc (Nat.le_refl _) _
  obtain ⟨s1, hs1⟩ : ∃ s1 : ByteArray, (⟨(fxS ph.toNat 1).toArray⟩ : ByteArray) = s1 := ⟨_, rfl⟩
  obtain ⟨s2, hs2⟩ : ∃ s2 : ByteArray, (⟨(fxS tr.toNat 1).toArray⟩ : ByteArray) = s2 := ⟨_, rfl⟩
  obtain ⟨s3, hs3⟩ : ∃ s3 : ByteArray, (⟨(fxS inp.toNat 2).toArray⟩ : ByteArray) = s3 := ⟨_, rfl⟩
  obtain ⟨s4, hs4⟩ : ∃ s4 : ByteArray, (⟨(fxS n 4).toArray⟩ : ByteArray) = s4 := ⟨_, rfl⟩
  have z1 : s1.size = 1 := by rw [← hs1, ba_size, fxS_len]
  have z2 : s2.size = 1 := by rw [← hs2, ba_size, fxS_len]
  have z3 : s3.size = 2 := by rw [← hs3, ba_size, fxS_len]
  have z4 : s4.size = 4 := by rw [← hs4, ba_size, fxS_len]
  have zh : (⟨#[2]⟩ : ByteArray).size = 1 := rfl
  have p1 : ∀ d os, Calls Tryd.prog 23 #[.int .u64 ph, .int .i64 1] (Sort.grow (redrawn X2 d) os) fun e w'' => e = .returned (.string s1) ∧ ∃ p : Regrown, w'' = Sort.grow (redrawn X2 p.d) p.os := fun d os => by
    have h := wide_any (Sort.grow (redrawn X2 d) os) ph.toNat 1 (by omega) (by decide)
    rw [Int.toNat_of_nonneg h1.1, hs1] at h
    exact Calls.regrown_of h
  have p2 : ∀ d os, Calls Tryd.prog 23 #[.int .u64 tr, .int .i64 1] (Sort.grow (redrawn X2 d) os) fun e w'' => e = .returned (.string s2) ∧ ∃ p : Regrown, w'' = Sort.grow (redrawn X2 p.d) p.os := fun d os => by
    have h := wide_any (Sort.grow (redrawn X2 d) os) tr.toNat 1 (by omega) (by decide)
    rw [Int.toNat_of_nonneg h2.1, hs2] at h
    exact Calls.regrown_of h
  have p3 : ∀ d os, Calls Tryd.prog 23 #[.int .u64 inp, .int .i64 2] (Sort.grow (redrawn X2 d) os) fun e w'' => e = .returned (.string s3) ∧ ∃ p : Regrown, w'' = Sort.grow (redrawn X2 p.d) p.os := fun d os => by
    have h := wide_any (Sort.grow (redrawn X2 d) os) inp.toNat 2 (by omega) (by decide)
    rw [Int.toNat_of_nonneg h3.1, hs3] at h
    exact Calls.regrown_of h
  have p4 : ∀ d os, Calls Tryd.prog 23 #[.int .u64 (n : Int), .int .i64 4] (Sort.grow (redrawn X2 d) os) fun e w'' => e = .returned (.string s4) ∧ ∃ p : Regrown, w'' = Sort.grow (redrawn X2 p.d) p.os := fun d os => by
    have h := wide_any (Sort.grow (redrawn X2 d) os) n 4 (by omega) (by decide)
    rw [hs4] at h
    exact Calls.regrown_of h
  have y0 : (⟨#[2]⟩ : ByteArray).size + s1.size ≤ 9223372036854775807 := by omega
  have y1 : ((⟨#[2]⟩ : ByteArray) ++ s1).size + s2.size ≤ 9223372036854775807 := by rw [ByteArray.size_append]; omega
  have y2 : ((⟨#[2]⟩ : ByteArray) ++ s1 ++ s2).size + s3.size ≤ 9223372036854775807 := by rw [ByteArray.size_append, ByteArray.size_append]; omega
  have y3 : ((⟨#[2]⟩ : ByteArray) ++ s1 ++ s2 ++ s3).size + s4.size ≤ 9223372036854775807 := by rw [ByteArray.size_append, ByteArray.size_append, ByteArray.size_append]; omega
  have y4 : ((⟨#[2]⟩ : ByteArray) ++ s1 ++ s2 ++ s3 ++ s4).size + out.size ≤ 9223372036854775807 := by rw [ByteArray.size_append, ByteArray.size_append, ByteArray.size_append, ByteArray.size_append]; omega
  have HV : Hid ((⟨#[2]⟩ : ByteArray) ++ s1 ++ s2 ++ s3 ++ s4 ++ out = ⟨(lastL ⟨ph, tr, out.data.toList, inp, evs⟩).toArray⟩) := by
    apply ba_of
    rw [cat_list, cat_list, cat_list, cat_list, cat_list, ← hs1, ← hs2, ← hs3, ← hs4, fxS_one, fxS_one]
    unfold lastL
    simp only [hn]
    rfl
  have i0 := cell_regrown (f1.cell 0 _ rfl).1
  have i1 := cell_regrown (f1.cell 1 _ rfl).1
  have i2 := cell_regrown (f1.cell 2 _ rfl).1
  have i3 := cell_regrown (f1.cell 3 _ rfl).1
  have i4 := cell_regrown (f1.cell 4 _ rfl).1
  have ph0 := h1.1
  have ph1 := h1.2
  have tr0 := h2.1
  have tr1 := h2.2
  have in0 := h3.1
  have in1 := h3.2
  have qn : (n : Int) < 4294967296 := by omega
  have qn0 : (0 : Int) ≤ (n : Int) := by omega
  clear he h1 h2 h3 hn h4 f1 hs1 hs2 hs3 hs4 zh z1 z2 z3 z4
  go_enter Tryd.func16, Tryd.ntmps16
  go_upto_region 1 with fail
  refine wp_region_quiet_below (by kernel_rfl) (by kernel_rfl) ?_
  repeat (first | go_big_quiet_step (first | with_reducible exact p1 _ _ | with_reducible exact p2 _ _ | with_reducible exact p3 _ _ | with_reducible exact p4 _ _) | quiet_step (first | with_reducible exact p1 _ _ | with_reducible exact p2 _ _ | with_reducible exact p3 _ _ | with_reducible exact p4 _ _))
  refine wpQuiet_nil ?_
  intro _ hw'
  obtain ⟨⟨dq, osq⟩, hw''⟩ := hw'
  subst hw''
  have hY := below_regrown X2 dq osq
  first | (change Exit.then _ _ Exit.normal _ (Sort.grow (redrawn X2 dq) osq)) | skip
  generalize Sort.grow (redrawn X2 dq) osq = Y8 at hY ⊢
  clear p1 p2 p3 p4 i0 i1 i2 i3 i4
  go_wp2
  go_ret
  exact ⟨congrArg (fun x => Ending.returned (.string x)) HV.out, HB2.out.trans (hY.mono HB2.out.size)⟩
end Go.Proofs.YtdmiciblfbkndaaDoor
