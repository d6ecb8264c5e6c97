import Derived.Test.YtchinflkjcebjabGreatDoorCPa
namespace Go.Proofs.YtchinflkjcebjabGreatDoor
open Go.RowKit

theorem joinW_pre : ∀ (a b : List Bs), ∃ t, joinW (a ++ b) = joinW a ++ t
  | [], b => ⟨joinW b, rfl⟩
  | [x], [] => ⟨[], by simp [joinW]⟩
  | [x], y :: r => ⟨32 :: joinW (y :: r), rfl⟩
  | x :: y :: a, b => by
    obtain ⟨t, ht⟩ := joinW_pre (y :: a) b
    refine ⟨t, ?_⟩
    show x ++ 32 :: joinW ((y :: a) ++ b) = (x ++ 32 :: joinW (y :: a)) ++ t
    rw [ht]
    simp
theorem joinW_snoc : ∀ (a : List Bs) (x : Bs), joinW (a ++ [x]) = if a.length = 0 then x else joinW a ++ 32 :: x
  | [], x => rfl
  | [y], x => rfl
  | y :: z :: a, x => by
    have h := joinW_snoc (z :: a) x
    rw [if_neg (by simp)] at h ⊢
    show y ++ 32 :: joinW ((z :: a) ++ [x]) = (y ++ 32 :: joinW (z :: a)) ++ 32 :: x
    rw [h]
    simp
theorem appS_any (w : World) (base : Nat) (v : Value) (n : Nat) (l : List UInt8) (s : ByteArray) (hown : w.ownsRow base 5 1 v n (bv l)) (hn : n + s.size ≤ 1000000000) (hb : base ≤ w.heap.size) :
    ∃ v' w', (Builtin.append_ #[52, 9] 52 #[v, .string s]).run Tryz.prog w = .ok v' w' ∧ Grew w w' base v v' (n + s.size) (l ++ s.data.toList) := by
  obtain ⟨i0, hi, hz0, hz1, hz2⟩ := info_parts info5
  rcases hown.2 with ⟨rfl, hn0⟩ | ⟨g, cap, cur, rfl, _⟩
  · have hl : l = [] := by have := hown.1; rw [bv_len] at this; exact List.eq_nil_of_length_eq_zero (by omega)
    subst hl hn0
    obtain ⟨v', w', hr, h2, h3, _⟩ := Lib.run_append_own_string (P := Tryz.prog) w w.heap.size 52 9 52 5 i0 Tryz.underlying52 Tryz.underlying9 hi hz0 hz1 hz2 _ 0 _ (World.ownsRow_nil w w.heap.size 5 1) s (by unfold maxLen; omega) (by omega) (Nat.le_refl _)
    have h2' : w'.ownsRow w.heap.size 5 1 v' (0 + s.size) (bv ([] ++ s.data.toList)) := by rw [List.nil_append, ← strCells_bv]; exact h2
    exact ⟨v', w', hr, own_down h2' hb, (Kp.refl _ _).grown h3 (fun k hk => by cases hk), fun g hg => .inr (own_ge h2' g hg)⟩
  · obtain ⟨v', w', hr, h2, h3, h4⟩ := run_appS w 52 base g cap n l s hown hn hb
    exact ⟨v', w', hr, Grew.str h2 h3 h4⟩
theorem tv_get {w : World} {B : Nat} {q : Option Addr} {n cap : Nat} {ws : List ByteArray} (h : w.ownsRow B 9 1 (.slice q n cap) n (tv ws)) (j : Nat) (hj : j < ws.length) : ∃ g, q = some ⟨g, 0, none⟩ ∧ w.cell? ⟨g, 0 + j, none⟩ = some (.string ws[j]) := by
  have hl : n = ws.length := by have := h.1; unfold tv at this; rw [List.length_map] at this; omega
  obtain ⟨q', cap', hv, _, hr⟩ := own_slice h
  cases hv
  obtain ⟨g, rfl, hg⟩ := hr (by omega)
  exact ⟨g, rfl, hg j _ (by unfold tv; rw [List.getElem?_map, List.getElem?_eq_getElem hj]; rfl)⟩
def dl (ws : List ByteArray) : List Bs := ws.map fun s => s.data.toList
set_option maxRecDepth 100000 in
set_option maxHeartbeats 4000000 in
theorem line_any (ws : List ByteArray) (w : World) (base : Nat) (v : Value) (m : Nat) (l : List UInt8) (ho : w.ownsRow base 5 1 v m (bv l)) (hb : base ≤ w.heap.size) (B : Nat) (q : Option Addr) (cap : Nat) (hw : w.ownsRow B 9 1 (.slice q ws.length cap) ws.length (tv ws)) (hm : m + (lnS (dl ws)).length ≤ 900000000) (hwl : ws.length ≤ 9223372036854775807) (hsz : ∀ s ∈ ws, s.size ≤ 100000000) :
    Calls Tryz.prog 28 #[v, .slice q ws.length cap] w fun e w' => ∃ v', e = .returned v' ∧ Hid (Grew w w' base v v' (m + (lnS (dl ws)).length) (l ++ lnS (dl ws))) := by
  obtain ⟨L, HL⟩ : ∃ L, Hid (L = lnS (dl ws)) := ⟨_, rfl⟩
  rw [← HL.out] at hm ⊢
  have hJ : L.length = (joinW (dl ws)).length + 1 := by rw [HL.out]; unfold lnS; simp
  obtain ⟨T, HTt⟩ : ∃ T, Hid (T = m + L.length) := ⟨_, rfl⟩
  rw [← HTt.out] at hm ⊢
  have HJ : Hid (T = m + (joinW (dl ws)).length + 1) := by show T = _; rw [HTt.out, hJ]; omega
  clear hJ HTt
  have HW : Hid (w.ownsRow B 9 1 (.slice q ws.length cap) ws.length (tv ws)) := hw
  have HO : Hid (w.ownsRow base 5 1 v m (bv l)) := ho
  have HP : Hid (∀ j, (joinW ((dl ws).take j)).length ≤ (joinW (dl ws)).length) := fun j => by
    obtain ⟨t, ht⟩ := joinW_pre ((dl ws).take j) ((dl ws).drop j)
    rw [List.take_append_drop] at ht
    rw [ht, List.length_append]
    omega
  have hwi : (ws.length : Int) ≤ 9223372036854775807 := by omega
  clear ho hw
  go_enter Tryz.func28, Tryz.ntmps28
  go_wp2_with fail
  go_loopw [0, 9] (fun b i wr => ∃ (j n' : Nat) (l' : List UInt8), j ≤ ws.length ∧ i = .int .i64 (j : Int) ∧ Hid (l' = l ++ joinW ((dl ws).take j)) ∧ Hid (n' = m + (joinW ((dl ws).take j)).length) ∧ n' + 1 ≤ T ∧ Hid (Grew w wr base v b n' l')) (fun _ i _ => ws.length - (intOf i).toNat)
  case atStart =>
    refine ⟨0, m, l, Nat.zero_le _, rfl, ?_, ?_, by have := HJ.out; omega, Grew.start HO.out⟩
    · show _ = _; simp [joinW]
    · show _ = _; simp [joinW]
  case round =>
    obtain ⟨j, n', l', hj, rfl, hl', hn', hnb, hG⟩ := hrel
    obtain ⟨qb, cb, rfl, -, -⟩ := own_slice hG.out.own
    have hzr := Nat.le_trans hb hG.out.kp.size
    have HOr : Hid (wr.ownsRow base 5 1 (.slice qb n' cb) n' (bv l')) := hG.out.own
    by_cases hlt : j < ws.length
    case neg =>
      obtain rfl : j = ws.length := by omega
      have H1 := one1 (.int .u8 10) rfl
      have HE : Hid (L = joinW (dl ws) ++ [10] ∧ l' = l ++ joinW (dl ws) ∧ n' = m + (joinW (dl ws)).length) := by
        refine ⟨HL.out, ?_, ?_⟩
        · rw [hl'.out, List.take_of_length_le (by simp [dl])]
        · rw [hn'.out, List.take_of_length_le (by simp [dl])]
      clear hl' hn'
      go_wp2_with (first
        | (at_builtin; refine wpList_app 52 5 _ 1 1 Tryz.underlying52 info5 (by rfl) (by decide) (by decide) (by rfl) _ _ (by rfl) base (.slice qb n' cb) n' (bv l') (by rfl) HOr.out _ (by rfl) H1 (by rfl) (by omega) hzr ?_; intro v4 w4 ho4 hg4; obtain ⟨q4, c4, rfl, -, -⟩ := own_slice ho4.out)
        | fail)
      first | (change bodyPost Tryz.prog Tryz.f28 _ Exit.ret _ _) | (simp only [Exit.noGoto])
      go_ret
      refine ⟨_, rfl, ?_⟩
      obtain ⟨e1, e2, e3⟩ := HE.out
      have e4 : T = n' + 1 := by rw [e3]; exact HJ.out
      have e5 : l ++ L = l' ++ [10] := by rw [e1, e2]; simp
      rw [e4, e5]
      refine hG.out.step _ hg4.out.1 hg4.out.2 ?_
      rw [bv_app]
      exact ho4.out
    have hkept : ∀ g, (Value.slice q ws.length cap).ownBlock = some g → wr.heap[g]? = w.heap[g]? := fun g hg => hG.out.kept HO.out (own_blk HW.out g hg) (by decide)
    obtain ⟨g, rfl, hc⟩ := tv_get (own_same HW.out hkept) j hlt
    rw [Nat.zero_add] at hc
    have hsj := hsz _ (List.getElem_mem hlt)
    have HN : Hid (joinW ((dl ws).take (j + 1)) = if j = 0 then ws[j].data.toList else joinW ((dl ws).take j) ++ 32 :: ws[j].data.toList) := by
      show _ = _
      have hj' : j < (dl ws).length := by simpa [dl] using hlt
      rw [List.take_succ_eq_append_getElem hj', joinW_snoc]
      have e1 : ((dl ws).take j).length = j := by rw [List.length_take]; omega
      rw [e1]
      simp [dl]
    have hnx := HP.out (j + 1)
    rw [HN.out] at hnx
    have hn'' := hn'.out
    generalize ws[j] = s at *
    have hss := Lib.size_eq s
    have j0 : (0 : Int) ≤ (j : Int) := by omega
    have j1 : (j : Int) < (ws.length : Int) := by omega
    clear hkept
    rcases Nat.eq_zero_or_pos j with hj0 | hj0
    · rw [if_pos hj0] at hnx HN
      have hjw : joinW ((dl ws).take j) = [] := by rw [hj0]; rfl
      have hll : l' = l := by rw [hl'.out, hjw]; simp
      have hnn : n' = m := by rw [hn'', hjw]; simp
      obtain ⟨v5, w5, hr5, G5⟩ := appS_any wr base _ n' l' s HOr.out (by omega) hzr
      obtain ⟨q5, c5, rfl, -, -⟩ := own_slice G5.own
      have HG5 : Hid (Grew w w5 base v (.slice q5 (n' + s.size) c5) (n' + s.size) (l' ++ s.data.toList)) := hG.out.trans G5
      have k2 : ¬ (0 : Int) < (j : Int) := by omega
      have HLL : Hid (l' = l ∧ n' = m) := ⟨hll, hnn⟩
      have hbd : n' + s.size + 1 ≤ T := by have := HJ.out; omega
      clear hss hn'' hll hnn hjw G5 hn' hl' hG hj0
      go_wp2_with (first
        | (at_builtin; refine wpList_bi (by rfl) _ _ _ _ (by rfl) _ _ (by rfl) (by rfl) hr5 ?_)
        | fail)
      refine ⟨⟨j + 1, n' + s.size, l' ++ s.data.toList, by omega, by go_num, ?_, ?_, hbd, HG5⟩, by simp [intOf]; omega⟩
      · show _ = _
        rw [HN.out, HLL.out.1]
      · show _ = _
        rw [HN.out, HLL.out.2, ← Lib.size_eq]
    · rw [if_neg (by omega)] at hnx HN
      rw [List.length_append, List.length_cons] at hnx
      have k2 : (0 : Int) < (j : Int) := by omega
      have H1 := one1 (.int .u8 32) rfl
      have hbd : n' + 1 + s.size + 1 ≤ T := by have := HJ.out; omega
      have HLL : Hid (l' ++ [32] ++ s.data.toList = l ++ joinW ((dl ws).take (j + 1)) ∧ n' + 1 + s.size = m + (joinW ((dl ws).take (j + 1))).length) := by
        refine ⟨?_, ?_⟩
        · rw [HN.out, hl'.out]; simp
        · rw [HN.out, List.length_append, List.length_cons, hn'', hss]; omega
      have HGr : Hid (Grew w wr base v (.slice qb n' cb) n' l') := hG.out
      have HX : Hid (∀ v3 w3, w3.ownsRow base 5 1 v3 (n' + 1) (bv l' ++ [.int .u8 32]) → (wr.alloc (.cells #[.int .u8 32] 5)).grownBy w3 (Value.slice qb n' cb).ownBlock → (v3.ownBlock = (Value.slice qb n' cb).ownBlock ∨ v3.ownBlock = some (wr.heap.size + 1)) → ∃ q5 c5 w5, (Builtin.append_ #[52, 9] 52 #[v3, .string s]).run Tryz.prog w3 = .ok (.slice q5 (n' + 1 + s.size) c5) w5 ∧ Grew w w5 base v (.slice q5 (n' + 1 + s.size) c5) (n' + 1 + s.size) (l' ++ [32] ++ s.data.toList)) := fun v3 w3 h3 hg hv => by
        have G3 : Grew w w3 base v v3 (n' + 1) (l' ++ [32]) := HGr.out.step _ hg hv (by rw [bv_app]; exact h3)
        obtain ⟨v5, w5, hr5, G5⟩ := appS_any w3 base v3 (n' + 1) (l' ++ [32]) s G3.own (by omega) (Nat.le_trans hb G3.kp.size)
        obtain ⟨q5, c5, rfl, -, -⟩ := own_slice G5.own
        exact ⟨q5, c5, w5, hr5, G3.trans G5⟩
      clear hss hn'' hn' hl' hG
      go_wp2_with (first
        | (at_builtin; refine wpList_app 52 5 _ 1 1 Tryz.underlying52 info5 (by rfl) (by decide) (by decide) (by rfl) _ _ (by rfl) base (.slice qb n' cb) n' (bv l') (by rfl) HOr.out _ (by rfl) H1 (by rfl) (by omega) hzr ?_; intro v4 w4 ho4 hg4; obtain ⟨q5, c5, w5, hr5, G5⟩ := HX.out v4 w4 ho4.out hg4.out.1 hg4.out.2)
        | (at_builtin; refine wpList_bi (by rfl) _ _ _ _ (by rfl) _ _ (by rfl) (by rfl) hr5 ?_)
        | fail)
      exact ⟨⟨j + 1, n' + 1 + s.size, l' ++ [32] ++ s.data.toList, by omega, by go_num, HLL.out.1, HLL.out.2, hbd, G5⟩, by simp [intOf]; omega⟩
end Go.Proofs.YtchinflkjcebjabGreatDoor
