import Derived.Lib.QuietBelow
import Derived.Test.YtdmiciblfbkndaaDoorA18
import Derived.Test.YtdmiciblfbkndaaDoorA13
import Derived.Test.YtdmiciblfbkndaaDoorA01
import Derived.Test.YtdmiciblfbkndaaDoorA02
namespace Go.Proofs.YtdmiciblfbkndaaDoor
open Go.RowKit

/-- What event answers. -/
def EvOf (B : Nat) (W : World) (P : Nat) (s : Rd) : Prop := Calls Tryd.prog 91 #[.pointer (some ⟨P, 0, none⟩)] W fun e w' => e = .returned (.agg (ec (evR s).1).toArray) ∧ RdQ B W P (evR s).2 w'
theorem own_oth2 {W W' : World} {b : Nat} {e : TypeId} {sz : Nat} {v : Value} {n : Nat} {xs : List Value} (h : W.ownsRow b e sz v n xs) (k : OthR W W') (h1 : e ≠ 9) (h2 : e ≠ 131) : W'.ownsRow b e sz v n xs :=
  own_same h fun g hg => by
    obtain ⟨cur, hv, -⟩ := own_blk h g hg
    have f : Full W g e cur.toList := by unfold Full; rw [Array.toArray_toList]; exact hv
    exact (k g e _ f h1 h2).trans f.symm
theorem nmR_le (ns : List (List UInt8)) (r : List UInt8) : (nmR ns r).2.1.length ≤ ns.length + 1 ∧ (nmR ns r).2.2.length ≤ r.length := by
  have h1 := nR_len r
  have h2 := byteR_len (nR r).2
  unfold nmR
  simp only
  split
  · exact ⟨Nat.le_succ _, h1⟩
  · split
    · exact ⟨Nat.le_succ _, h1⟩
    · simp only [List.length_append, List.length_cons, List.length_nil, List.length_drop]
      omega
theorem vlR_le (vk : Int) (r : List UInt8) : (vlR vk r).2.2.length ≤ r.length := by
  have h1 := nR_len r
  have h2 := byteR_len r
  unfold vlR
  split
  · exact h1
  · split
    · exact h2
    · split
      · simp only [List.length_drop]; omega
      · split
        · exact h1
        · exact Nat.le_refl _
theorem evR_le (s : Rd) : (evR s).2.ns.length ≤ s.ns.length + 1 ∧ (evR s).2.r.length ≤ s.r.length ∧ (-9223372036854775808 ≤ (evR s).2.nd ∧ (evR s).2.nd ≤ 9223372036854775807) := by
  have h1 := byteR_len s.r
  have h2 := nR_len (byteR s.r).2
  have h3 := nmR_le s.ns (nR (byteR s.r).2).2
  have h4 := vlR_le (((byteR s.r).1.toNat / 16 : Nat) : Int) (nmR s.ns (nR (byteR s.r).2).2).2.2
  refine ⟨h3.1, ?_, ?_⟩
  · show (vlR _ _).2.2.length ≤ _
    omega
  · show -9223372036854775808 ≤ wrp _ ∧ wrp _ ≤ _
    unfold wrp
    omega
/-- One event more. -/
theorem evs_app {B : Nat} {W : World} {P : Nat} {s : Rd} {v : Value} {n : Nat} {xs : List Value} (hr : RdS B W P s) (ho : W.ownsRow B 37 6 v n xs) (e : Ev) (hl : n + 1 ≤ 100000000) : ∃ q cp w2,
    (Builtin.append_ #[26, 26] 26 #[v, .slice (some ⟨W.heap.size, 0, none⟩) 1 1]).run Tryd.prog (W.alloc (.cells (ec e).toArray 37)) = .ok (.slice q (n + 1) cp) w2 ∧
    Hid (RdS B w2 P s ∧ w2.ownsRow B 37 6 (.slice q (n + 1) cp) (n + 1) (xs ++ ec e) ∧ Below B W w2) := by
  have bZ : Below W.heap.size W (W.alloc (.cells (ec e).toArray 37)) := (Below.refl _ W).alloc (Nat.le_refl _) _
  have hZ := hr.next bZ
  have oZ := own_next ho bZ
  have fZ : Full (W.alloc (.cells (ec e).toArray 37)) W.heap.size 37 (ec e) := Full.new W _ _
  obtain ⟨nv', w2, r9, o9, g9⟩ := app_two (P := Tryd.prog) 26 26 _ 64 Tryd.underlying26 infoE rfl (by decide) (by decide) v n _ oZ W.heap.size (ec e) rfl (by simp [ec, sV, Value.oneCell']) fZ.range (by omega) hZ.size
  obtain ⟨q9, k9, rfl, -, -⟩ := own_slice o9
  refine ⟨q9, k9, w2, r9, ?_, o9, ?_⟩
  · rcases g9 with ⟨-, g9⟩ | ⟨-, g9⟩
    · obtain ⟨nv, hZ⟩ := hZ
      exact ⟨nv, hZ.low, hZ.box.grow oZ (by decide) g9, own_grow hZ.names oZ (by decide) g9⟩
    · exact hZ.next g9
  · rcases g9 with ⟨-, g9⟩ | ⟨-, g9⟩
    · exact (bZ.mono hr.size).trans ((Below.refl B _).grown g9 hZ.size (own_ge oZ))
    · exact (bZ.mono hr.size).trans (g9.mono hZ.size)
theorem hr_ev (i : Nat) (s : Rd) (h : s.r = []) : evsR i s = [] := by
  cases i with
  | zero => rfl
  | succ k => unfold evsR; rw [if_pos h]
/-- Where the loop stands: the events so far, the reader, what is left. -/
def RsI (B : Nat) (W : World) (P : Nat) (L : List Ev) (i n : Nat) (v : Value) (s : Rd) (wr : World) : Prop := ∃ D, D.length = n ∧ D ++ evsR i s = L ∧ RdS B wr P s ∧ wr.ownsRow B 37 6 v n (D.flatMap ec) ∧ Below B W wr ∧ s.r.length ≤ 140737488355328 ∧ s.ns.length ≤ n ∧ (-9223372036854775808 ≤ s.nd ∧ s.nd ≤ 9223372036854775807)
set_option maxRecDepth 100000 in
set_option maxHeartbeats 4000000 in
theorem readEvents_any (W : World) (b : ByteArray) (hb : b.size ≤ 140737488355328)
    (HE : ∀ (wr : World) (P : Nat) (s : Rd), RdS W.heap.size wr P s → s.r.length ≤ 140737488355328 → s.ns.length ≤ 800 → (-9223372036854775808 ≤ s.nd ∧ s.nd ≤ 9223372036854775807) → EvOf W.heap.size wr P s) :
    ReadsEv W b (bodyR b.data.toList) := by
  unfold ReadsEv
  obtain ⟨l, hl⟩ : ∃ l, b.data.toList = l := ⟨_, rfl⟩
  have hll : l.length ≤ 140737488355328 := by rw [← hl, ← Lib.size_eq]; exact hb
  obtain ⟨L, hL⟩ : ∃ L, bodyR l = L := ⟨_, rfl⟩
  rw [hl, hL]
  obtain ⟨r1, hr1⟩ : ∃ r1, (byteR l).2 = r1 := ⟨_, rfl⟩
  have hl1 : r1.length ≤ 140737488355328 := by have := byteR_len l; rw [hr1] at this; omega
  have hLR : evsR 64 ⟨0, [], r1⟩ = L := by rw [← hL, ← hr1]; rfl
  obtain ⟨X, hX⟩ : ∃ X, W.alloc (.cells #[.int .i64 0, .slice none 0 0, .string b] 131) = X := ⟨_, rfl⟩
  obtain ⟨P, hP⟩ : ∃ P, W.heap.size = P := ⟨_, rfl⟩
  have fP : Full X P 131 [.int .i64 0, .slice none 0 0, .string b] := by rw [← hX, ← hP]; exact Full.new W _ _
  have bX : Below W.heap.size W X := by rw [← hX]; exact (Below.refl _ W).alloc (Nat.le_refl _) _
  have hr0 : RdS W.heap.size X P ⟨0, [], l⟩ := ⟨.slice none 0 0, by omega, by rw [show sV (⟨0, [], l⟩ : Rd).r = .string b from sV_at hl]; exact fP, ⟨rfl, .inl ⟨rfl, rfl⟩⟩⟩
  have HC := rbyte hr0 hll
  simp only [hr1] at HC
  obtain ⟨c0, hc0⟩ : ∃ c, (byteR l).1 = c := ⟨_, rfl⟩
  rw [hc0] at HC
  have HBX : Hid (Below W.heap.size W X) := bX
  have HEh : Hid (∀ (wr : World) (P : Nat) (s : Rd), RdS W.heap.size wr P s → s.r.length ≤ 140737488355328 → s.ns.length ≤ 800 → (-9223372036854775808 ≤ s.nd ∧ s.nd ≤ 9223372036854775807) → EvOf W.heap.size wr P s) := HE
  clear hb hL hr1 fP bX hr0 hc0 hl hll HE
  go_enter Tryd.func60, Tryd.ntmps60
  go_wp2_with fail
  refine HC.mono ?_
  rintro e w1 ⟨rfl, hw1⟩
  have HI0 : Hid (RsI W.heap.size W P L 64 0 (.slice none 0 0) ⟨0, [], r1⟩ w1) := ⟨[], rfl, hLR, hw1.out.1, ⟨rfl, .inl ⟨rfl, rfl⟩⟩, HBX.out.trans hw1.out.2.1, hl1, Nat.le_refl _, by simp only; omega⟩
  clear HC hw1 HBX hX hl1 hLR
  go_wp2_with fail
  go_loopw [4] (fun v wr => ∃ (q : Option Addr) (n cap i : Nat) (s : Rd), v = .slice q n cap ∧ i + n = 64 ∧ Hid (RsI W.heap.size W P L i n v s wr)) (fun v _ => 64 - (match v with | .slice _ n _ => n | _ => 0))
  case atStart => exact ⟨none, 0, 0, 64, ⟨0, [], r1⟩, rfl, rfl, HI0⟩
  case round =>
    obtain ⟨q, n, cap, i, s, rfl, hin, HQ⟩ := hrel
    clear HI0
    obtain ⟨D, hD, hDL, hrs, hev, hbw, hrl, hnl, hnd⟩ := HQ.out
    obtain ⟨-, -, -, -, c2, d2, -⟩ := hrs.cells
    obtain ⟨sb, hsb⟩ : ∃ x : ByteArray, x.data.toList = s.r := ⟨⟨s.r.toArray⟩, rfl⟩
    rw [show sV s.r = .string sb from sV_at hsb] at c2
    by_cases hr : s.r = []
    · have hne : sb.toList = [] := by rw [toL, hsb, hr]
      have HF : Hid (L = D) := by
        rw [hr_ev i s hr, List.append_nil] at hDL
        exact hDL.symm
      have HV : Hid (wr.ownsRow W.heap.size 37 6 (.slice q n cap) n (D.flatMap ec) ∧ Below W.heap.size W wr ∧ D.length = n) := ⟨hev, hbw, hD⟩
      clear hD hDL hrs hev hbw hrl hnl hnd hsb hr hin HQ
      go_wp2_with fail
      go_ret
      rw [HF.out]
      refine ⟨q, cap, ?_, ?_, HV.out.2.1⟩
      · rw [HV.out.2.2]; rfl
      · rw [HV.out.2.2]; exact HV.out.1
    · have hne : sb.toList ≠ [] := by rw [toL, hsb]; exact hr
      have hem : sb.toList.isEmpty = false := by rw [List.isEmpty_eq_false_iff]; exact hne
      by_cases hn : n < 64
      · have hni : (n : Int) < 64 := by omega
        obtain ⟨i, rfl⟩ : ∃ k, i = k + 1 := ⟨i - 1, by omega⟩
        have HC := HEh.out wr P s hrs hrl (by omega) hnd
        unfold EvOf at HC
        obtain ⟨k1, k2, k3⟩ := evR_le s
        have HK : Hid (∀ w', RdQ W.heap.size wr P (evR s).2 w' → ∃ q9 k9 w9, (Builtin.append_ #[26, 26] 26 #[.slice q n cap, .slice (some ⟨w'.heap.size, 0, none⟩) 1 1]).run Tryd.prog (w'.alloc (.cells (ec (evR s).1).toArray 37)) = .ok (.slice q9 (n + 1) k9) w9 ∧ Hid (RsI W.heap.size W P L i (n + 1) (.slice q9 (n + 1) k9) (evR s).2 w9)) := fun w' h' => by
          obtain ⟨q9, k9, w9, r9, h9⟩ := evs_app h'.out.1 (own_oth2 hev h'.out.2.2 (by decide) (by decide)) (evR s).1 (by omega)
          refine ⟨q9, k9, w9, r9, D ++ [(evR s).1], by simp [hD], ?_, h9.out.1, ?_, (hbw.trans h'.out.2.1).trans h9.out.2.2, by omega, by omega, k3⟩
          · rw [← hDL]
            show _ = D ++ evsR (i + 1) s
            unfold evsR
            rw [if_neg hr, List.append_assoc]
            cases i <;> rfl
          · rw [List.flatMap_append]
            simpa using h9.out.2.1
        have HIN : Hid (i + 1 + n = 64) := hin
        clear hD hDL hrs hev hbw hrl hnl hnd hsb hr hin HQ k1 k2 k3 hn
        go_wp2_with fail
        refine HC.mono ?_
        rintro e w9 ⟨rfl, hw9⟩
        obtain ⟨q9, k9, wx, r9, HR⟩ := HK.out w9 hw9
        obtain ⟨ev, hev⟩ : ∃ ev, (evR s).1 = ev := ⟨_, rfl⟩
        obtain ⟨ek, en, enm, evk, evn, evs⟩ := ev
        rw [hev] at r9
        rw [hev]
        simp only [ec, sV] at r9 ⊢
        clear HC HK hw9 c2 d2 hev
        go_wp2_with (at_builtin; refine wpList_run rfl _ _ _ _ _ _ _ r9 (by rfl) (by rfl) (by rfl) (by rfl) ?_)
        exact ⟨⟨q9, n + 1, k9, i, (evR s).2, rfl, by have := HIN.out; omega, HR⟩, by have := HIN.out; simp; omega⟩
      · have hni : ¬ (n : Int) < 64 := by omega
        obtain rfl : n = 64 := by omega
        obtain rfl : i = 0 := by omega
        have HF : Hid (L = D) := by
          rw [show evsR 0 s = [] from rfl, List.append_nil] at hDL
          exact hDL.symm
        have HV : Hid (wr.ownsRow W.heap.size 37 6 (.slice q 64 cap) 64 (D.flatMap ec) ∧ Below W.heap.size W wr ∧ D.length = 64) := ⟨hev, hbw, hD⟩
        clear hD hDL hrs hev hbw hrl hnl hnd hsb hr hin HQ hni hn
        go_wp2_with fail
        go_ret
        rw [HF.out]
        refine ⟨q, cap, ?_, ?_, HV.out.2.1⟩
        · rw [HV.out.2.2]; rfl
        · rw [HV.out.2.2]; exact HV.out.1
end Go.Proofs.YtdmiciblfbkndaaDoor

namespace Go.Proofs.YtdmiciblfbkndaaDoor
open Go.RowKit

theorem nmR_sz (ns : List (List UInt8)) (r : List UInt8) (hr : r.length ≤ 140737488355328) (hn : ∀ x ∈ ns, x.length ≤ 140737488355328) : (nmR ns r).1.length ≤ 140737488355328 ∧ ∀ x ∈ (nmR ns r).2.1, x.length ≤ 140737488355328 := by
  have h1 := nR_len r
  have h2 := byteR_len (nR r).2
  unfold nmR
  simp only
  split
  · exact ⟨by simp, hn⟩
  · split
    · refine ⟨?_, hn⟩
      rw [List.getD_eq_getElem?_getD]
      cases hx : ns[(nR r).1 - 1]? with
      | none => simp
      | some x => exact hn x (List.mem_of_getElem? hx)
    · have h3 : ((byteR (nR r).2).2.take (byteR (nR r).2).1.toNat).length ≤ 140737488355328 := by rw [List.length_take]; omega
      refine ⟨h3, fun x hx => ?_⟩
      rcases List.mem_append.1 hx with h | h
      · exact hn x h
      · rw [List.mem_singleton.1 h]; exact h3
theorem vlR_sz (vk : Int) (r : List UInt8) (hr : r.length ≤ 140737488355328) : (vlR vk r).2.1.length ≤ 140737488355328 ∧ (-9223372036854775808 ≤ (vlR vk r).1 ∧ (vlR vk r).1 ≤ 9223372036854775807) := by
  have h1 := nR_lt r
  have h2 := nR_len r
  have h3 := UInt8.toNat_lt (byteR r).1
  unfold vlR
  split
  · refine ⟨by simp, ?_⟩
    show -9223372036854775808 ≤ uz _ ∧ uz _ ≤ _
    unfold uz
    split <;> omega
  · split
    · refine ⟨by simp, ?_⟩
      show (-9223372036854775808 : Int) ≤ ((byteR r).1.toNat : Int) ∧ ((byteR r).1.toNat : Int) ≤ 9223372036854775807
      omega
    · split
      · refine ⟨by show (List.take _ _).length ≤ _; rw [List.length_take]; omega, by show (-9223372036854775808 : Int) ≤ 0 ∧ (0 : Int) ≤ 9223372036854775807; omega⟩
      · split
        · refine ⟨by simp, ?_⟩
          show -9223372036854775808 ≤ wrp _ ∧ wrp _ ≤ _
          unfold wrp
          omega
        · exact ⟨by simp, by show (-9223372036854775808 : Int) ≤ 0 ∧ (0 : Int) ≤ 9223372036854775807; omega⟩
theorem evR_sz (s : Rd) (hr : s.r.length ≤ 140737488355328) (hn : ∀ x ∈ s.ns, x.length ≤ 140737488355328) : EvSz (evR s).1 ∧ (-9223372036854775808 ≤ (evR s).1.vn ∧ (evR s).1.vn ≤ 9223372036854775807) ∧ ∀ x ∈ (evR s).2.ns, x.length ≤ 140737488355328 := by
  have h1 := byteR_len s.r
  have h2 := nR_len (byteR s.r).2
  have h3 := nmR_le s.ns (nR (byteR s.r).2).2
  have h4 := nmR_sz s.ns (nR (byteR s.r).2).2 (by omega) hn
  have h5 := vlR_sz (((byteR s.r).1.toNat / 16 : Nat) : Int) (nmR s.ns (nR (byteR s.r).2).2).2.2 (by omega)
  exact ⟨⟨h4.1, h5.1⟩, h5.2, h4.2⟩
theorem evsR_ok : ∀ (k : Nat) (s : Rd), s.r.length ≤ 140737488355328 → (∀ x ∈ s.ns, x.length ≤ 140737488355328) → (∀ e ∈ evsR k s, EvSz e) ∧ (∀ e ∈ evsR k s, -9223372036854775808 ≤ e.vn ∧ e.vn ≤ 9223372036854775807) ∧ (evsR k s).length ≤ k := by
  intro k
  induction k with
  | zero => intro s _ _; exact ⟨fun e h => absurd h List.not_mem_nil, fun e h => absurd h List.not_mem_nil, Nat.le_refl _⟩
  | succ k ih =>
    intro s hr hn
    unfold evsR
    split
    · exact ⟨fun e h => absurd h List.not_mem_nil, fun e h => absurd h List.not_mem_nil, Nat.zero_le _⟩
    · obtain ⟨h1, h2, h3⟩ := evR_sz s hr hn
      obtain ⟨-, h5, -⟩ := evR_le s
      obtain ⟨i1, i2, i3⟩ := ih (evR s).2 (by omega) h3
      refine ⟨fun e h => ?_, fun e h => ?_, by rw [List.length_cons]; omega⟩
      · rcases List.mem_cons.1 h with rfl | h
        · exact h1
        · exact i1 e h
      · rcases List.mem_cons.1 h with rfl | h
        · exact h2
        · exact i2 e h
theorem bodyR_ok (b : List UInt8) (hb : b.length ≤ 140737488355328) : (∀ e ∈ bodyR b, EvSz e) ∧ (∀ e ∈ bodyR b, -9223372036854775808 ≤ e.vn ∧ e.vn ≤ 9223372036854775807) ∧ (bodyR b).length ≤ 64 :=
  evsR_ok 64 _ (by have := byteR_len b; show (byteR b).2.length ≤ _; omega) (fun x h => absurd h List.not_mem_nil)
/-- What is left to show of event. -/
def AllEv : Prop := ∀ (B : Nat) (wr : World) (P : Nat) (s : Rd), RdS B wr P s → s.r.length ≤ 140737488355328 → s.ns.length ≤ 800 → (-9223372036854775808 ≤ s.nd ∧ s.nd ≤ 9223372036854775807) → EvOf B wr P s
theorem take_all (hE : AllEv) {B : Nat} {W : World} {A : Nat} {w : Wy} {nv : Value} (h : Wyr B W A w nv) (b : ByteArray) (hb : b.size ≤ 140737488355328) (h0 : 0 < b.size) (hn : w.rc.evs.length ≤ 1048576) :
    Calls Tryd.prog 27 #[.pointer (some ⟨A, 0, none⟩), .string b] W fun e w' => e = .returned (.bool (takeS w b.data.toList).isSome) ∧ WyQ B W A ((takeS w b.data.toList).getD w) w' := by
  obtain ⟨k1, k2, k3⟩ := bodyR_ok b.data.toList (by rw [← Lib.size_eq]; exact hb)
  exact take_any h b hb h0 hn (fun hf => takeEvents_any h b hn hf (readEvents_any W b hb fun wr P s => hE _ wr P s) k1 k2 k3)
end Go.Proofs.YtdmiciblfbkndaaDoor

namespace Go.Proofs.YtdmiciblfbkndaaDoor
open Go.RowKit

/-- What is known of the events that are read. -/
def EvRd (e : Ev) : Prop := EvSz e ∧ (-9223372036854775808 ≤ e.vn ∧ e.vn ≤ 9223372036854775807)
structure RcRd (rc : Rc) : Prop where
  ev : ∀ e ∈ rc.evs, EvRd e
  n : rc.evs.length ≤ 1048576
  out : rc.out.length ≤ 16777216
theorem take_rd {w w' : Wy} {body : List UInt8} (hb : body.length ≤ 140737488355328) (h : takeS w body = some w') (k : RcRd w.rc) : RcRd w'.rc := by
  have hn := (takeS_keep h).2 k.n
  unfold takeS at h
  split at h
  · cases h
  · split at h
    · unfold takeE at h
      split at h
      · cases h
      · split at h
        · obtain ⟨k1, k2, -⟩ := bodyR_ok body hb
          obtain rfl := (Option.some.inj h).symm
          refine ⟨fun e he => ?_, hn, k.out⟩
          rcases List.mem_append.1 he with h1 | h1
          · exact k.ev e h1
          · exact ⟨k1 e h1, k2 e h1⟩
        · cases h
    · split at h
      · unfold takeL at h
        simp only at h
        split at h
        · rename_i h1
          obtain rfl := (Option.some.inj h).symm
          exact ⟨k.ev, hn, h1.1⟩
        · cases h
      · cases h
theorem fol_rd : ∀ (k : Nat) (w : Wy) (r : List UInt8), r.length ≤ 140737488355328 → RcRd w.rc → RcRd (folW k w r).rc := by
  intro k
  induction k with
  | zero => intro w r _ h; exact h
  | succ k ih =>
    intro w r hr h
    unfold folW
    cases hf : firstS r with
    | none => exact h
    | some body =>
      obtain ⟨-, hl⟩ := first_le hf
      cases ht : takeS w body with
      | none => simpa only [ht] using h
      | some w' =>
        simp only [ht]
        exact ih ⟨w'.rc, w'.len + (8 + body.length), w'.fin⟩ _ (by rw [List.length_drop]; omega) (show RcRd w'.rc from take_rd (by omega) ht h)
theorem rc0_rd : RcRd rc0 := ⟨fun e h => absurd h List.not_mem_nil, by decide, by decide⟩
theorem follow_rd {b : List UInt8} (hb : b.length ≤ 140737488355328) {w : Wy} (h : followS b = some w) : RcRd w.rc := by
  unfold followS at h
  split at h
  · obtain rfl := Option.some.inj h
    exact fol_rd _ _ _ (by rw [List.length_drop]; omega) ⟨fun e h => absurd h List.not_mem_nil, by decide, by decide⟩
  · cases h
theorem dec_rd {b : List UInt8} (hb : b.length ≤ 140737488355328) : RcRd (decS b).1 := by
  unfold decS
  cases hf : followS b with
  | none => exact rc0_rd
  | some w =>
    simp only
    split
    · exact follow_rd hb hf
    · exact rc0_rd
theorem sal_rd {b : List UInt8} (hb : b.length ≤ 140737488355328) : RcRd (salS b).1 := by
  unfold salS
  cases hf : followS b with
  | none => exact rc0_rd
  | some w => exact follow_rd hb hf
end Go.Proofs.YtdmiciblfbkndaaDoor

namespace Go.Proofs.YtdmiciblfbkndaaDoor

/-! What the document's reader reads: leniently. -/
def txF (r : List UInt8) (n : Nat) : List UInt8 × List UInt8 := if r = [] ∨ r.length < n then ([], []) else (r.take n, r.drop n)
theorem txF_back (x r : List UInt8) : txF (x ++ r) x.length = (x, r) := by
  unfold txF
  by_cases h : x ++ r = []
  · obtain ⟨rfl, rfl⟩ := List.append_eq_nil_iff.1 h
    rfl
  · rw [if_neg (by rintro (q | q); exact h q; rw [List.length_append] at q; omega)]
    simp
def nmF (ns : List (List UInt8)) (r : List UInt8) : List UInt8 × List (List UInt8) × List UInt8 :=
  let p := nR r
  if ns.length < p.1 then let t := txF (byteR p.2).2 (byteR p.2).1.toNat; (t.1, ns ++ [t.1], t.2)
  else if p.1 = 0 then ([], ns, p.2) else (ns.getD (p.1 - 1) [], ns, p.2)
def vlF (vk : Int) (r : List UInt8) : Int × List UInt8 × List UInt8 :=
  if vk = 1 then (uz (nR r).1, [], (nR r).2) else if vk = 2 then (((byteR r).1.toNat : Int), [], (byteR r).2) else if vk = 3 then (0, (txF (nR r).2 (nR r).1).1, (txF (nR r).2 (nR r).1).2)
  else if vk = 4 then (wrp ((nR r).1 : Int), [], (nR r).2) else (0, [], r)
def evD (s : Rd) : Ev × Rd :=
  let c := byteR s.r
  let u := nR c.2
  let nd := wrp (s.nd + uz u.1)
  let m := nmF s.ns u.2
  let v := vlF (c.1.toNat / 16 : Nat) m.2.2
  (⟨(c.1.toNat % 16 : Nat), nd, m.1, (c.1.toNat / 16 : Nat), v.1, v.2.1⟩, ⟨nd, m.2.1, v.2.2⟩)
def evsD : Nat → Rd → List Ev
  | 0, _ => []
  | k + 1, s => if s.r = [] then [] else (evD s).1 :: evsD k (evD s).2
/-- The events of a body, as the document reads them. -/
def bodyD (b : List UInt8) : List Ev := evsD b.length ⟨0, [], b.drop 1⟩

theorem nm_backD (ns : List (List UInt8)) (x r : List UInt8) (hx : x.length ≤ 24) (hn : ns.length < 1000) : nmF ns (nmS ns x ++ r) = (x, nmN ns x, r) := by
  unfold nmS nmN nmF
  by_cases h0 : x = []
  · rw [if_pos h0, if_pos h0]
    simp only
    rw [nR_back 0 (by decide)]
    simp [h0]
  · rw [if_neg h0, if_neg h0]
    by_cases h1 : x ∈ ns
    · rw [if_pos h1, if_pos h1]
      have hi : ns.idxOf x < ns.length := List.idxOf_lt_length_iff.2 h1
      simp only
      rw [nR_back _ (by omega)]
      simp only
      rw [if_neg (by omega), if_neg (by omega)]
      congr 1
      rw [List.getD_eq_getElem?_getD, Nat.add_sub_cancel, List.getElem?_eq_getElem hi, List.getElem_idxOf]
      rfl
    · rw [if_neg h1, if_neg h1]
      simp only [List.append_assoc]
      rw [nR_back _ (by omega)]
      simp only
      rw [if_pos (by omega)]
      have e : (UInt8.ofNat x.length).toNat = x.length := by rw [UInt8.toNat_ofNat']; omega
      simp only [List.cons_append, byteR, e]
      rw [txF_back]
theorem vl_backD (vk vn : Int) (vs r : List UInt8) (h : valOk vk vn vs = true) (hn : -9223372036854775808 ≤ vn ∧ vn ≤ 9223372036854775807) : vlF vk (vlS vk vn vs ++ r) = (vn, vs, r) := by
  unfold valOk at h
  unfold vlF vlS
  by_cases h1 : vk = 1
  · subst h1
    simp at h
    simp only [if_true, sgnS]
    rw [nR_back _ (zz_lt vn hn), uz_zz, h]
  by_cases h2 : vk = 2
  · subst h2
    simp at h
    rcases h with ⟨rfl | rfl, rfl⟩ <;> rfl
  by_cases h3 : vk = 3
  · subst h3
    simp at h
    simp only [if_true]
    rw [if_neg (by decide), if_neg (by decide), if_neg (by decide), if_neg (by decide), List.append_assoc, nR_back _ (by omega)]
    simp only
    rw [txF_back, h.1]
  by_cases h4 : vk = 4
  · subst h4
    simp at h
    simp only [if_true]
    rw [if_neg (by decide), if_neg (by decide), if_neg (by decide), if_neg (by decide), if_neg (by decide), if_neg (by decide), nR_back _ (by omega), wrp_id _ (by omega), h.2]
    simp only [Prod.mk.injEq, and_true]
    omega
  by_cases h0 : vk = 0
  · subst h0
    simp at h
    simp [h.1, h.2]
  · simp [h0, h1, h2, h3, h4] at h
theorem ev_backD (e : Ev) (nd : Int) (ns : List (List UInt8)) (r : List UInt8) (h : evOk e = true) (hv : -9223372036854775808 ≤ e.vn ∧ e.vn ≤ 9223372036854775807) (hnd : 0 ≤ nd ∧ nd < 40000) (hns : ns.length < 1000) : evD ⟨nd, ns, evL nd ns e ++ r⟩ = (e, ⟨e.n, nmN ns e.nm, r⟩) := by
  obtain ⟨hok, hk1, hk8, hn0, hn1, hnm⟩ := evOk_parts h
  have hk := valOk_kind hok
  have hb : (UInt8.ofNat (e.k.toNat + 16 * e.vk.toNat)).toNat = e.k.toNat + 16 * e.vk.toNat := by rw [UInt8.toNat_ofNat']; omega
  unfold evD evL
  simp only [List.cons_append, byteR, List.append_assoc, sgnS]
  rw [nR_back _ (zz_lt _ (by omega)), uz_zz, hb]
  simp only
  rw [nm_backD ns e.nm _ hnm hns]
  simp only
  rw [show ((e.k.toNat + 16 * e.vk.toNat) / 16 : Nat) = e.vk.toNat by omega, show ((e.k.toNat + 16 * e.vk.toNat) % 16 : Nat) = e.k.toNat by omega, Int.toNat_of_nonneg hk.1, Int.toNat_of_nonneg (by omega), vl_backD _ _ _ _ hok hv, show nd + (e.n - nd) = e.n by omega, wrp_id e.n (by omega)]
theorem evs_backD : ∀ (l : List Ev) (k : Nat) (nd : Int) (ns : List (List UInt8)), (∀ e ∈ l, evOk e = true ∧ (-9223372036854775808 ≤ e.vn ∧ e.vn ≤ 9223372036854775807)) → l.length ≤ k → 0 ≤ nd ∧ nd < 40000 → ns.length + l.length < 1000 → evsD k ⟨nd, ns, evsL nd ns l⟩ = l := by
  intro l
  induction l with
  | nil => intro k nd ns _ _ _ _; cases k <;> simp [evsD, evsL]
  | cons e l ih =>
    intro k nd ns hl hk hnd hns
    obtain ⟨h1, h2⟩ := hl e (by simp)
    match k, hk with
    | k + 1, hk =>
      simp only [List.length_cons] at hk hns
      show (if evL nd ns e ++ evsL e.n (nmN ns e.nm) l = [] then [] else _) = _
      rw [if_neg (by simp [evL])]
      show (evD ⟨nd, ns, evL nd ns e ++ evsL e.n (nmN ns e.nm) l⟩).1 :: evsD k (evD ⟨nd, ns, evL nd ns e ++ evsL e.n (nmN ns e.nm) l⟩).2 = _
      rw [ev_backD e nd ns _ h1 h2 hnd (by omega)]
      have := nmN_len ns e.nm
      obtain ⟨-, -, -, h3, h4, -⟩ := evOk_parts h1
      rw [ih k e.n (nmN ns e.nm) (fun x hx => hl x (by simp [hx])) (by omega) ⟨h3, h4⟩ (by omega)]
theorem evsL_ge : ∀ (l : List Ev) (nd : Int) (ns : List (List UInt8)), l.length ≤ (evsL nd ns l).length := by
  intro l
  induction l with
  | nil => intro _ _; exact Nat.zero_le _
  | cons e l ih =>
    intro nd ns
    show (e :: l).length ≤ (evL nd ns e ++ evsL e.n (nmN ns e.nm) l).length
    have := ih e.n (nmN ns e.nm)
    have h := List.length_pos_iff.2 (evL_ne nd ns e)
    rw [List.length_cons, List.length_append]
    omega
theorem body_backD (l : List Ev) (hl : ∀ e ∈ l, evOk e = true ∧ (-9223372036854775808 ≤ e.vn ∧ e.vn ≤ 9223372036854775807)) (h64 : l.length ≤ 64) : bodyD (bodyL l) = l := by
  unfold bodyD bodyL
  have := evsL_ge l 0 []
  exact evs_backD l _ 0 [] hl (by rw [List.length_cons]; omega) (by decide) (by simp; omega)

/-! What is read stays within bounds. -/
theorem txF_le (r : List UInt8) (n : Nat) : (txF r n).1.length ≤ r.length ∧ (txF r n).2.length ≤ r.length := by
  unfold txF
  split
  · exact ⟨Nat.zero_le _, Nat.zero_le _⟩
  · exact ⟨by show (List.take _ _).length ≤ _; rw [List.length_take]; omega, by show (List.drop _ _).length ≤ _; rw [List.length_drop]; omega⟩
theorem nmF_sz (M : Nat) (ns : List (List UInt8)) (r : List UInt8) (hr : r.length ≤ M) (hn : ∀ x ∈ ns, x.length ≤ M) : (nmF ns r).1.length ≤ M ∧ (∀ x ∈ (nmF ns r).2.1, x.length ≤ M) ∧ (nmF ns r).2.2.length ≤ r.length ∧ (nmF ns r).2.1.length ≤ ns.length + 1 := by
  have h1 := nR_len r
  have h2 := byteR_len (nR r).2
  have h4 := txF_le (byteR (nR r).2).2 (byteR (nR r).2).1.toNat
  unfold nmF
  simp only
  split
  · have h5 : (txF (byteR (nR r).2).2 (byteR (nR r).2).1.toNat).1.length ≤ M := by omega
    have h6 : (txF (byteR (nR r).2).2 (byteR (nR r).2).1.toNat).2.length ≤ r.length := by omega
    refine ⟨h5, fun x hx => ?_, h6, by rw [List.length_append]; exact Nat.le_refl _⟩
    rcases List.mem_append.1 hx with h | h
    · exact hn x h
    · rw [List.mem_singleton.1 h]; exact h5
  · split
    · exact ⟨by simp, hn, h1, Nat.le_succ _⟩
    · refine ⟨?_, hn, h1, Nat.le_succ _⟩
      rw [List.getD_eq_getElem?_getD]
      cases hx : ns[(nR r).1 - 1]? with
      | none => simp
      | some x => exact hn x (List.mem_of_getElem? hx)
theorem vlF_sz (M : Nat) (vk : Int) (r : List UInt8) (hr : r.length ≤ M) : (vlF vk r).2.1.length ≤ M ∧ (-9223372036854775808 ≤ (vlF vk r).1 ∧ (vlF vk r).1 ≤ 9223372036854775807) ∧ (vlF vk r).2.2.length ≤ r.length := by
  have h1 := nR_lt r
  have h2 := nR_len r
  have h3 := UInt8.toNat_lt (byteR r).1
  have h5 := byteR_len r
  have h4 := txF_le (nR r).2 (nR r).1
  unfold vlF
  split
  · refine ⟨by simp, ?_, h2⟩
    show -9223372036854775808 ≤ uz _ ∧ uz _ ≤ _
    unfold uz
    split <;> omega
  · split
    · refine ⟨by simp, ?_, by show (byteR r).2.length ≤ _; omega⟩
      show (-9223372036854775808 : Int) ≤ ((byteR r).1.toNat : Int) ∧ ((byteR r).1.toNat : Int) ≤ 9223372036854775807
      omega
    · split
      · refine ⟨by show (txF _ _).1.length ≤ _; omega, by show (-9223372036854775808 : Int) ≤ 0 ∧ (0 : Int) ≤ 9223372036854775807; omega, by show (txF _ _).2.length ≤ _; omega⟩
      · split
        · refine ⟨by simp, ?_, h2⟩
          show -9223372036854775808 ≤ wrp _ ∧ wrp _ ≤ _
          unfold wrp
          omega
        · exact ⟨by simp, by show (-9223372036854775808 : Int) ≤ 0 ∧ (0 : Int) ≤ 9223372036854775807; omega, Nat.le_refl _⟩
theorem evD_sz (M : Nat) (s : Rd) (hr : s.r.length ≤ M) (hn : ∀ x ∈ s.ns, x.length ≤ M) : ((evD s).1.nm.length ≤ M ∧ (evD s).1.vs.length ≤ M) ∧ (-9223372036854775808 ≤ (evD s).1.vn ∧ (evD s).1.vn ≤ 9223372036854775807) ∧ (∀ x ∈ (evD s).2.ns, x.length ≤ M) ∧ (evD s).2.r.length ≤ s.r.length ∧ (s.r ≠ [] → (evD s).2.r.length < s.r.length) ∧ (evD s).2.ns.length ≤ s.ns.length + 1 ∧ (evD s).2.nd = (evD s).1.n := by
  have h1 := byteR_len s.r
  have h2 := nR_len (byteR s.r).2
  have h4 := nmF_sz M s.ns (nR (byteR s.r).2).2 (by omega) hn
  have h5 := vlF_sz M (((byteR s.r).1.toNat / 16 : Nat) : Int) (nmF s.ns (nR (byteR s.r).2).2).2.2 (by omega)
  have h6 : s.r ≠ [] → (byteR s.r).2.length < s.r.length := fun h => by
    cases hs : s.r with
    | nil => exact absurd hs h
    | cons b r => exact Nat.lt_succ_self _
  refine ⟨⟨h4.1, h5.1⟩, h5.2.1, h4.2.1, ?_, fun h => ?_, h4.2.2.2, rfl⟩
  · show (vlF _ _).2.2.length ≤ _
    omega
  · have := h6 h
    show (vlF _ _).2.2.length < _
    omega
theorem evsD_ok (M : Nat) : ∀ (k : Nat) (s : Rd), s.r.length ≤ M → (∀ x ∈ s.ns, x.length ≤ M) → (∀ e ∈ evsD k s, e.nm.length ≤ M ∧ e.vs.length ≤ M) ∧ (∀ e ∈ evsD k s, -9223372036854775808 ≤ e.vn ∧ e.vn ≤ 9223372036854775807) ∧ (evsD k s).length ≤ k := by
  intro k
  induction k with
  | zero => intro s _ _; exact ⟨fun e h => absurd h List.not_mem_nil, fun e h => absurd h List.not_mem_nil, Nat.le_refl _⟩
  | succ k ih =>
    intro s hr hn
    unfold evsD
    split
    · exact ⟨fun e h => absurd h List.not_mem_nil, fun e h => absurd h List.not_mem_nil, Nat.zero_le _⟩
    · obtain ⟨h1, h2, h3, h4, -, -, -⟩ := evD_sz M s hr hn
      obtain ⟨i1, i2, i3⟩ := ih (evD s).2 (by omega) h3
      refine ⟨fun e h => ?_, fun e h => ?_, by rw [List.length_cons]; omega⟩
      · rcases List.mem_cons.1 h with rfl | h
        · exact h1
        · exact i1 e h
      · rcases List.mem_cons.1 h with rfl | h
        · exact h2
        · exact i2 e h
theorem bodyD_ok (b : List UInt8) : (∀ e ∈ bodyD b, e.nm.length ≤ b.length ∧ e.vs.length ≤ b.length) ∧ (∀ e ∈ bodyD b, -9223372036854775808 ≤ e.vn ∧ e.vn ≤ 9223372036854775807) ∧ (bodyD b).length ≤ b.length :=
  evsD_ok b.length b.length _ (by show (b.drop 1).length ≤ _; rw [List.length_drop]; omega) (fun x h => absurd h List.not_mem_nil)
/-- Both readings hold at the same bodies. -/
theorem body_both (b : List UInt8) (hb : b.length ≤ 140737488355328) : (bodyR b ≠ [] ∧ (bodyR b).all evOk = true ∧ bodyL (bodyR b) = b) ↔ (bodyD b ≠ [] ∧ (bodyD b).length ≤ 64 ∧ (bodyD b).all evOk = true ∧ bodyL (bodyD b) = b) := by
  obtain ⟨-, hv, hl⟩ := bodyR_ok b hb
  obtain ⟨-, hvD, -⟩ := bodyD_ok b
  constructor
  · rintro ⟨h1, h2, h3⟩
    have e : bodyD b = bodyR b := by
      conv => lhs; rw [← h3]
      exact body_backD _ (fun e he => ⟨List.all_eq_true.1 h2 e he, hv e he⟩) hl
    rw [e]
    exact ⟨h1, hl, h2, h3⟩
  · rintro ⟨h1, h2, h3, h4⟩
    have e : bodyR b = bodyD b := by
      conv => lhs; rw [← h4]
      exact body_back _ (fun e he => ⟨List.all_eq_true.1 h3 e he, hvD e he⟩) h2
    rw [e]
    exact ⟨h1, h3, h4⟩
theorem body_same (b : List UInt8) (h : bodyD b ≠ [] ∧ (bodyD b).length ≤ 64 ∧ (bodyD b).all evOk = true ∧ bodyL (bodyD b) = b) : bodyR b = bodyD b := by
  obtain ⟨-, hvD, -⟩ := bodyD_ok b
  conv => lhs; rw [← h.2.2.2]
  exact body_back _ (fun e he => ⟨List.all_eq_true.1 h.2.2.1 e he, hvD e he⟩) h.2.1
end Go.Proofs.YtdmiciblfbkndaaDoor

namespace Go.Proofs.YtdmiciblfbkndaaDoor

/-- What Salvaged answers. -/
def sgS (b : List UInt8) : Rc × Nat × Bool := match followS b with
  | none => (rc0, 0, false)
  | some w => (w.rc, w.len, w.fin)
theorem dec_sg (b : List UInt8) : decS b = if (sgS b).2.2 = true ∧ b.length ≤ (sgS b).2.1 then ((sgS b).1, 0) else (rc0, 250) := by
  unfold decS sgS
  cases followS b with
  | none => rfl
  | some w => rfl
/-- A chunk, as the document looks at it. -/
theorem first_eq (r : List UInt8) (n : Nat) (hn : n = fxO (r.take 4)) (h9 : 9 ≤ r.length) (h1 : 1 ≤ n) (h2 : n ≤ r.length - 8) : firstS r = if r.take (8 + n) = chS ((r.take (4 + n)).drop 4) then some ((r.take (4 + n)).drop 4) else none := by
  have hlt : n < 4294967296 := by
    have := fxO_lt (r.take 4)
    rw [List.length_take, Nat.min_eq_left (by omega)] at this
    omega
  have hbl : ((r.take (4 + n)).drop 4).length = n := by
    rw [List.length_drop, List.length_take]
    omega
  split
  · rename_i h
    have e : r = chS ((r.take (4 + n)).drop 4) ++ r.drop (8 + n) := by rw [← h, List.take_append_drop]
    conv => lhs; rw [e]
    exact first_ch _ _ (fun q => by rw [q] at hbl; simp at hbl; omega) (by omega)
  · rename_i h
    cases hf : firstS r with
    | none => rfl
    | some body =>
      exfalso
      apply h
      have hb : body = (r.take (4 + n)).drop 4 := by
        unfold firstS at hf
        split at hf
        · cases hf
        · split at hf
          · cases hf
          · split at hf
            · rw [hn]; exact (Option.some.inj hf).symm
            · cases hf
      obtain ⟨-, -, h3⟩ := first_is r body hf
      rw [← hb]
      have hl : body.length = n := by rw [hb, hbl]
      conv => lhs; rw [h3]
      rw [List.take_append_of_le_length (by rw [chS_len, hl]; exact Nat.le_refl _), List.take_of_length_le (by rw [chS_len, hl]; exact Nat.le_refl _)]
theorem first_short (r : List UInt8) (h : r.length < 9) : firstS r = none := by
  unfold firstS
  split
  · rfl
  · rw [if_pos]
    have : r.length - 8 = 0 := by omega
    rw [this]
    omega
theorem first_bad (r : List UInt8) (h : fxO (r.take 4) < 1 ∨ r.length - 8 < fxO (r.take 4)) : firstS r = none := by
  unfold firstS
  split
  · rfl
  · rw [if_pos (by omega)]
/-- Wide numbers, what is not there being 0. -/
def wdR : Nat → List UInt8 → Nat → Nat
  | 0, _, v => v
  | k + 1, r, v => wdR k (r.drop 1) (v * 256 + (byteR r).1.toNat)
theorem wdR_fx : ∀ (k : Nat) (r : List UInt8) (v : Nat), k ≤ r.length → wdR k r v = (r.take k).foldl (fun a c => a * 256 + c.toNat) v
  | 0, _, _, _ => rfl
  | k + 1, _ :: r, _, h => wdR_fx k r _ (Nat.le_of_succ_le_succ h)
theorem wdR_is (k : Nat) (r : List UInt8) (h : k ≤ r.length) : wdR k r 0 = fxO (r.take k) := wdR_fx k r 0 h
theorem wdR_lt : ∀ (k : Nat) (r : List UInt8) (v m : Nat), v < m → wdR k r v < m * 256 ^ k
  | 0, _, v, m, h => by show v < m * 1; omega
  | k + 1, r, v, m, h => by
    have h1 := UInt8.toNat_lt (byteR r).1
    have h2 := wdR_lt k (r.drop 1) (v * 256 + (byteR r).1.toNat) (m * 256) (by omega)
    show wdR k _ _ < _
    rw [Nat.pow_succ, Nat.mul_comm (256 ^ k) 256, ← Nat.mul_assoc]
    exact h2
/-- The last chunk, as the document reads it. -/
theorem last_eq (body : List UInt8) (evs : List Ev) (h : 9 ≤ body.length) : lastR body evs = ⟨((byteR (body.drop 1)).1.toNat : Int), ((byteR (body.drop 2)).1.toNat : Int), body.drop 9, (wdR 2 (body.drop 3) 0 : Int), evs⟩ := by
  match body, h with
  | b0 :: b1 :: b2 :: r, h =>
    simp only [List.length_cons] at h
    unfold lastR
    rw [show List.drop 3 (b0 :: b1 :: b2 :: r) = r from rfl, wdR_is 2 r (by omega)]
    rfl
theorem takeL_short (w : Wy) (body : List UInt8) (h : body.length < 9) : takeL w body = none := by
  unfold takeL
  rw [if_neg]
  rintro ⟨-, -, h3⟩
  have := congrArg List.length h3
  rw [lastL_len] at this
  omega
theorem valid_eq (rc : Rc) (hv : rc.evs.all evOk = true) (hn : rc.evs.length ≤ 1048576) : (encS rc).2 = 0 ↔ (rc.out.length ≤ 16777216 ∧ endOk rc.ph rc.tr rc.inp = true) := by
  unfold encS
  constructor
  · intro h
    split at h
    · cases h
    · split at h
      · rename_i h1 h2
        rw [Bool.and_eq_true] at h2
        exact ⟨by omega, h2.1⟩
      · cases h
  · rintro ⟨h1, h2⟩
    rw [if_neg (by omega), h2, hv]
    rfl
/-- Where the document stands in a file. -/
structure SgI (b : List UInt8) (evs : List Ev) (at_ : Nat) : Prop where
  pre : b.take 2 = [82, 1]
  lo : 2 ≤ at_
  le : at_ ≤ b.length
  ok : evs.all evOk = true
  n : evs.length ≤ 1048576
  vn : ∀ e ∈ evs, -9223372036854775808 ≤ e.vn ∧ e.vn ≤ 9223372036854775807
  sz : ∀ e ∈ evs, e.nm.length ≤ 140737488355328 ∧ e.vs.length ≤ 140737488355328
  fol : ∃ k, (b.drop at_).length < k ∧ folW b.length wy0 (b.drop 2) = folW k ⟨⟨0, 0, [], 0, evs⟩, at_, false⟩ (b.drop at_)
theorem SgI.start {b : List UInt8} (h : b.take 2 = [82, 1]) : SgI b [] 2 := by
  have hl : 2 ≤ b.length := by
    have := congrArg List.length h
    rw [List.length_take] at this
    simp at this
    omega
  exact ⟨h, Nat.le_refl _, hl, rfl, by decide, fun e he => absurd he List.not_mem_nil, fun e he => absurd he List.not_mem_nil, b.length, by rw [List.length_drop]; omega, rfl⟩
theorem SgI.done {b : List UInt8} {evs : List Ev} {at_ : Nat} (h : SgI b evs at_) {w : Wy} (e : ∀ k, (b.drop at_).length < k → folW k ⟨⟨0, 0, [], 0, evs⟩, at_, false⟩ (b.drop at_) = w) : sgS b = (w.rc, w.len, w.fin) := by
  obtain ⟨k, hk, hf⟩ := h.fol
  unfold sgS followS
  rw [if_pos h.pre, hf, e k hk]
theorem SgI.none_ {b : List UInt8} {evs : List Ev} {at_ : Nat} (h : SgI b evs at_) (e : firstS (b.drop at_) = none) : sgS b = (⟨0, 0, [], 0, evs⟩, at_, false) := h.done (w := ⟨⟨0, 0, [], 0, evs⟩, at_, false⟩) fun _ _ => fol_none e
theorem SgI.stop {b : List UInt8} {evs : List Ev} {at_ : Nat} (h : SgI b evs at_) {body : List UInt8} (e : firstS (b.drop at_) = some body) (ht : takeS ⟨⟨0, 0, [], 0, evs⟩, at_, false⟩ body = none) : sgS b = (⟨0, 0, [], 0, evs⟩, at_, false) := h.done (w := ⟨⟨0, 0, [], 0, evs⟩, at_, false⟩) fun _ _ => fol_stop e ht
theorem fol_fin : ∀ (k : Nat) (w : Wy) (r : List UInt8), w.fin = true → folW k w r = w
  | 0, _, _, _ => rfl
  | k + 1, w, r, h => by
    unfold folW
    cases firstS r with
    | none => rfl
    | some body =>
      have : takeS w body = none := by unfold takeS; rw [if_pos h]
      simp only [this]
theorem SgI.fin {b : List UInt8} {evs : List Ev} {at_ : Nat} (h : SgI b evs at_) {body : List UInt8} (e : firstS (b.drop at_) = some body) {l : Rc} (ht : takeS ⟨⟨0, 0, [], 0, evs⟩, at_, false⟩ body = some ⟨l, at_, true⟩) : sgS b = (l, at_ + (8 + body.length), true) := h.done (w := ⟨l, at_ + (8 + body.length), true⟩) fun k hk => by
  rw [fol_go e ht hk]
  exact fol_fin _ _ _ rfl
theorem SgI.go {b : List UInt8} {evs : List Ev} {at_ : Nat} (h : SgI b evs at_) {body : List UInt8} (e : firstS (b.drop at_) = some body) {l : List Ev} (hl : l.all evOk = true) (hn : evs.length + l.length ≤ 1048576) (hv : ∀ e ∈ l, -9223372036854775808 ≤ e.vn ∧ e.vn ≤ 9223372036854775807) (hz : ∀ e ∈ l, e.nm.length ≤ 140737488355328 ∧ e.vs.length ≤ 140737488355328) (ht : takeS ⟨⟨0, 0, [], 0, evs⟩, at_, false⟩ body = some ⟨⟨0, 0, [], 0, evs ++ l⟩, at_, false⟩) : SgI b (evs ++ l) (at_ + (8 + body.length)) := by
  obtain ⟨h0, h8⟩ := first_le e
  rw [List.length_drop] at h8
  obtain ⟨k, hk, hf⟩ := h.fol
  have hp : 0 < body.length := List.length_pos_iff.2 h0
  rw [List.length_drop] at hk
  refine ⟨h.pre, by have := h.lo; omega, by have := h.le; omega, by rw [List.all_append, h.ok, hl]; rfl, by rw [List.length_append]; exact hn, fun x hx => ?_, fun x hx => ?_, k - 1, by rw [List.length_drop]; have := h.le; omega, ?_⟩
  · rcases List.mem_append.1 hx with q | q
    · exact h.vn x q
    · exact hv x q
  · rcases List.mem_append.1 hx with q | q
    · exact h.sz x q
    · exact hz x q
  · rw [hf, fol_go e ht (by rw [List.length_drop]; omega), List.drop_drop]
/-- A chunk of the last. -/
theorem take_two (evs : List Ev) (at_ : Nat) (body : List UInt8) (h : (byteR body).1 = 2) (hl : body.length < 9) : takeS ⟨⟨0, 0, [], 0, evs⟩, at_, false⟩ body = none := by
  unfold takeS
  rw [if_neg (by simp), if_neg (by rw [h]; decide), if_pos h, takeL_short _ _ hl]
theorem take_two2 (evs : List Ev) (at_ : Nat) (body : List UInt8) (h : (byteR body).1 = 2) (hok : evs.all evOk = true) (hn : evs.length ≤ 1048576) : takeS ⟨⟨0, 0, [], 0, evs⟩, at_, false⟩ body = if (encS (lastR body evs)).2 = 0 ∧ lastL (lastR body evs) = body then some ⟨lastR body evs, at_, true⟩ else none := by
  unfold takeS
  rw [if_neg (by simp), if_neg (by rw [h]; decide), if_pos h]
  unfold takeL
  have e := valid_eq (lastR body evs) hok hn
  simp only
  by_cases q : (encS (lastR body evs)).2 = 0 ∧ lastL (lastR body evs) = body
  · rw [if_pos q, if_pos ⟨(e.1 q.1).1, (e.1 q.1).2, q.2⟩]
  · rw [if_neg q, if_neg (fun k => q ⟨e.2 ⟨k.1, k.2.1⟩, k.2.2⟩)]
/-- A chunk of events. -/
def EvsT (evs : List Ev) (body : List UInt8) : Prop := (bodyD body ≠ [] ∧ (bodyD body).length ≤ 64 ∧ (bodyD body).all evOk = true ∧ bodyL (bodyD body) = body) ∧ evs.length % 64 = 0 ∧ evs.length + (bodyD body).length ≤ 1048576
theorem take_one (evs : List Ev) (at_ : Nat) (body : List UInt8) (hb : body.length ≤ 140737488355328) (k : EvsT evs body) : takeS ⟨⟨0, 0, [], 0, evs⟩, at_, false⟩ body = some ⟨⟨0, 0, [], 0, evs ++ bodyD body⟩, at_, false⟩ := by
  obtain ⟨k1, k2, k3⟩ := k
  have h1 : (byteR body).1 = 1 := by rw [← k1.2.2.2]; rfl
  have hp : 0 < (bodyD body).length := List.length_pos_iff.2 k1.1
  unfold takeS
  rw [if_neg (by simp), if_pos h1]
  unfold takeE
  rw [if_neg (by simp only; omega), if_pos ((body_both body hb).2 k1), body_same body k1]
theorem take_not (evs : List Ev) (at_ : Nat) (body : List UInt8) (hb : body.length ≤ 140737488355328) (h : (byteR body).1 ≠ 2) (hn : evs.length ≤ 1048576) (k : ¬ EvsT evs body) : takeS ⟨⟨0, 0, [], 0, evs⟩, at_, false⟩ body = none := by
  unfold takeS
  rw [if_neg (by simp)]
  split
  · unfold takeE
    simp only
    split
    · rfl
    · rename_i h1 h2
      rw [if_neg]
      intro q
      have q2 := (body_both body hb).1 q
      exact k ⟨q2, by omega, by omega⟩
  · rfl
end Go.Proofs.YtdmiciblfbkndaaDoor

namespace Go.Proofs.YtdmiciblfbkndaaDoor
open Go.RowKit

/-! The document's reader. -/
theorem ix_run (s : ByteArray) (i : Nat) (hi : i < s.size) : ∀ w : World, (Instr.index 9 (.string s) (.int .i64 (i : Int))).run Tryd.prog w = .ok (.int .u8 ((s.data.toList.getD i 0).toNat : Int)) w := by
  intro w
  have h2 : i < s.data.size := hi
  have e : s.data.toList.getD i 0 = s[i]'hi := by
    rw [List.getD_eq_getElem?_getD, List.getElem?_eq_getElem (by simpa using h2)]
    rfl
  rw [e]
  simp [go_sem, hi]
/-- The reader in memory. -/
def Rr (w : World) (rb : Nat) (s : ByteArray) (p : Nat) : Prop := w.heap[rb]? = some (.cells #[.string s, .int .i64 (p : Int)] 70)
theorem Rr.cells {w : World} {rb : Nat} {s : ByteArray} {p : Nat} (h : Rr w rb s p) : (w.cell? ⟨rb, 0, none⟩ = some (.string s) ∧ w.cell? ⟨rb, 1, none⟩ = some (.int .i64 (p : Int))) ∧ w.frozen? ⟨rb, 1, none⟩ = false := by
  refine ⟨⟨?_, ?_⟩, ?_⟩
  all_goals first | (unfold World.cell?; rw [h]; rfl) | (unfold World.frozen?; rw [h]; rfl)
theorem Rr.lt {w : World} {rb : Nat} {s : ByteArray} {p : Nat} (h : Rr w rb s p) : rb < w.heap.size := (Array.getElem?_eq_some_iff.1 h).1
theorem Rr.next {w w' : World} {rb : Nat} {s : ByteArray} {p : Nat} (h : Rr w rb s p) (b : Below w.heap.size w w') : Rr w' rb s p := (b.block rb h.lt).trans h
theorem Rr.set {w : World} {rb : Nat} {s : ByteArray} {p : Nat} (h : Rr w rb s p) (q : Nat) : Rr (w.setCell ⟨rb, 1, none⟩ (.int .i64 (q : Int))) rb s q := set_blk h _
theorem Rr.new (w : World) (s : ByteArray) (p : Nat) : Rr (w.alloc (.cells #[.string s, .int .i64 (p : Int)] 70)) w.heap.size s p := World.alloc_heap_new w _
theorem kp_rb (w : World) (rb j : Nat) (v : Value) : Kp (fun x => x = rb) w (w.setCell ⟨rb, j, none⟩ v) := (Kp.refl (fun x => x = rb) w).setCell (p := ⟨rb, j, none⟩) (.inl rfl) _
theorem u64w (n : Int) : IntKind.u64.wrap n = n % 18446744073709551616 := by simp [IntKind.wrap, IntKind.bits, IntKind.signed]
theorem byteR_at (l : List UInt8) (p : Nat) : (byteR (l.drop p)).1 = l.getD p 0 := by
  rw [List.getD_eq_getElem?_getD]
  by_cases h : p < l.length
  · rw [List.drop_eq_getElem_cons h, List.getElem?_eq_getElem h]
    rfl
  · rw [List.drop_eq_nil_of_le (by omega), List.getElem?_eq_none (by omega)]
    rfl
theorem byteR_drop (l : List UInt8) (p : Nat) : (byteR (l.drop p)).2 = l.drop (p + 1) := by
  have : ∀ r : List UInt8, (byteR r).2 = r.drop 1 := fun r => by cases r <;> rfl
  rw [this, List.drop_drop]
/-- So far read of k bytes: what stands in v. -/
theorem wdR_step (k : Nat) (l : List UInt8) (p v : Nat) : wdR (k + 1) (l.drop p) v = wdR k (l.drop (p + 1)) (v * 256 + (l.getD p 0).toNat) := by
  show wdR k ((l.drop p).drop 1) _ = _
  rw [List.drop_drop, byteR_at]
set_option maxRecDepth 100000 in
set_option maxHeartbeats 2000000 in
theorem rwide_f (w : World) (rb k p : Nat) (s : ByteArray) (h : Rr w rb s p) (hp : p ≤ 1000000000000000) (hk : k ≤ 7) :
    Calls Tryd.prog 28 #[.pointer (some ⟨rb, 0, none⟩), .int .i64 (k : Int)] w fun e w' => e = .returned (.int .u64 (wdR k (s.data.toList.drop p) 0 : Int)) ∧ Hid (Rr w' rb s (p + k) ∧ Kp (fun x => x = rb) w w') := by
  have HR : Hid (Rr w rb s p ∧ Kp (fun x => x = rb) w w) := ⟨h, Kp.refl _ _⟩
  have hki : (k : Int) ≤ 7 := by omega
  have HS : Hid (s.data.toList.length = s.size) := (Lib.size_eq s).symm
  obtain ⟨V, hV⟩ : ∃ V, wdR k (s.data.toList.drop p) 0 = V := ⟨_, rfl⟩
  rw [hV]
  have HV : Hid (wdR k (s.data.toList.drop p) 0 = V) := hV
  clear h hV
  go_enter Tryd.func28, Tryd.ntmps28
  go_wp2_with fail
  go_loopw [5, 6] (fun v i wr => ∃ (j : Nat) (x : Int), j ≤ k ∧ i = .int .i64 (j : Int) ∧ v = .int .u64 x ∧ Hid (∃ m : Nat, x = (m : Int) ∧ m < 256 ^ j ∧ wdR (k - j) (s.data.toList.drop (p + j)) m = V) ∧ Hid (Rr wr rb s (p + j) ∧ Kp (fun x => x = rb) w wr)) (fun _ i _ => k - (intOf i).toNat)
  case atStart => exact ⟨0, 0, Nat.zero_le _, rfl, rfl, ⟨0, rfl, by decide, HV.out⟩, HR⟩
  case round =>
    obtain ⟨j, x, hj, rfl, rfl, hx, hr⟩ := hrel
    clear HR
    by_cases hlt : j < k
    case neg =>
      obtain rfl : j = k := by omega
      have p1 : ¬ (j : Int) < (j : Int) := by omega
      have HF : Hid (x = (V : Int)) := by
        obtain ⟨m, rfl, -, h2⟩ := hx.out
        rw [Nat.sub_self] at h2
        show (m : Int) = _
        rw [← h2]
        rfl
      clear hlt hj hx
      go_wp2
      first | (change bodyPost Tryd.prog Tryd.f28 _ Exit.ret _ _) | (simp only [Exit.noGoto])
      go_ret
      exact ⟨by rw [← HF.out]; rfl, hr⟩
    obtain ⟨⟨c0, c1⟩, c2⟩ := hr.out.1.cells
    have y0 := cell_regrown c0
    have y1 := cell_regrown c1
    have HN : Hid (∃ m : Nat, x = (m : Int) ∧ m < 72057594037927936 ∧ IntKind.u64.wrap (x * 256) = ((m * 256 : Nat) : Int) ∧ m * 256 + ((s.data.toList.getD (p + j) 0).toNat) < 256 ^ (j + 1) ∧ wdR (k - (j + 1)) (s.data.toList.drop (p + (j + 1))) (m * 256 + (s.data.toList.getD (p + j) 0).toNat) = V) := by
      obtain ⟨m, rfl, h1, h2⟩ := hx.out
      have h3 : (256 : Nat) ^ j ≤ 256 ^ 7 := Nat.pow_le_pow_right (by decide) (by omega)
      have hc := UInt8.toNat_lt (s.data.toList.getD (p + j) 0)
      refine ⟨m, rfl, Nat.lt_of_lt_of_le h1 h3, ?_, ?_, ?_⟩
      · rw [u64w]
        have : m < 72057594037927936 := Nat.lt_of_lt_of_le h1 h3
        omega
      · rw [Nat.pow_succ]
        omega
      · rw [show k - j = k - (j + 1) + 1 by omega, wdR_step] at h2
        exact h2
    have j1 : (j : Int) < (k : Int) := by omega
    have q0 : (0 : Int) ≤ ((p + j : Nat) : Int) := by omega
    have q1 : ((p + j : Nat) : Int) + 1 ≤ 9223372036854775807 := by omega
    have HE : Hid (∀ W, Below wr.heap.size wr W → Rr W rb s (p + j) ∧ Kp (fun x => x = rb) w W) := fun W hW => ⟨hr.out.1.next hW, hr.out.2.next hW⟩
    have HPJ : Hid (p + (j + 1) = p + j + 1) := by show _ = _; omega
    by_cases hin : p + j < s.size
    case pos =>
      have ixj := ix_run s (p + j) hin
      have q2 : ((p + j : Nat) : Int) < (s.size : Int) := by omega
      generalize s.data.toList.getD (p + j) 0 = c at *
      generalize p + j = pj at *
      clear hr hx c0 c1 c2
      go_wp2_with fail
      refine wp_region_quiet_below (by kernel_rfl) (by kernel_rfl) ?_
      repeat (first | go_big_quiet_step (first | fail) | quiet_step (first | fail))
      refine wpQuiet_nil ?_
      intro _ hw'
      obtain ⟨⟨dq, osq⟩, hw''⟩ := hw'
      subst hw''
      have hY := below_regrown wr dq osq
      first | (change Exit.then _ _ Exit.normal _ (Sort.grow (redrawn wr dq) osq)) | skip
      generalize Sort.grow (redrawn wr dq) osq = W1 at hY ⊢
      have HE1 := HE.out _ hY
      obtain ⟨⟨c0, c1⟩, c2⟩ := HE1.1.cells
      have y0 := cell_regrown c0
      have y1 := cell_regrown c1
      have HR1 : Hid (Rr W1 rb s pj ∧ Kp (fun x => x = rb) w W1) := HE1
      clear HE hY HE1
      go_wp2_with fail
      refine wp_region_quiet_below (by kernel_rfl) (by kernel_rfl) ?_
      repeat (first | go_big_quiet_step (first | fail) | quiet_step (first | fail))
      refine wpQuiet_nil ?_
      intro _ hw'
      obtain ⟨⟨dq, osq⟩, hw''⟩ := hw'
      subst hw''
      have hY := below_regrown W1 dq osq
      first | (change Exit.then _ _ Exit.normal _ (Sort.grow (redrawn W1 dq) osq)) | skip
      generalize Sort.grow (redrawn W1 dq) osq = W2 at hY ⊢
      have HR2 : Hid (Rr W2 rb s pj ∧ Kp (fun x => x = rb) w W2) := ⟨HR1.out.1.next hY, HR1.out.2.next hY⟩
      clear y0 y1 c0 c1 c2 hY HR1
      obtain ⟨⟨c0, c1⟩, c2⟩ := HR2.out.1.cells
      go_wp2_with fail
      have HV2 : Hid (Rr (W2.setCell ⟨rb, 1, none⟩ (.int .i64 ((pj : Int) + 1))) rb s (p + (j + 1)) ∧ Kp (fun x => x = rb) w (W2.setCell ⟨rb, 1, none⟩ (.int .i64 ((pj : Int) + 1)))) := ⟨by rw [HPJ.out]; exact HR2.out.1.set (pj + 1), HR2.out.2.trans (kp_rb W2 rb 1 _) (fun _ _ q => q)⟩
      refine ⟨⟨j + 1, _, by omega, by go_num, rfl, ?_, HV2⟩, by simp [intOf]; omega⟩
      obtain ⟨m, h1, h0, h2, h3, h4⟩ := HN.out
      refine ⟨m * 256 + c.toNat, ?_, h3, by rw [HPJ.out] at h4 ⊢; exact h4⟩
      have := UInt8.toNat_lt c
      rw [h2, u64w, u64w]
      omega
    have HZ : Hid ((s.data.toList.getD (p + j) 0) = 0) := by
      show _ = _
      rw [List.getD_eq_getElem?_getD, List.getElem?_eq_none (by rw [HS.out]; omega)]
      rfl
    rw [HZ.out] at HN
    have q2 : ¬ ((p + j : Nat) : Int) < (s.size : Int) := by omega
    generalize p + j = pj at *
    clear hr hx c0 c1 c2
    go_wp2_with fail
    refine wp_region_quiet_below (by kernel_rfl) (by kernel_rfl) ?_
    repeat (first | go_big_quiet_step (first | fail) | quiet_step (first | fail))
    refine wpQuiet_nil ?_
    intro _ hw'
    obtain ⟨⟨dq, osq⟩, hw''⟩ := hw'
    subst hw''
    have hY := below_regrown wr dq osq
    first | (change Exit.then _ _ Exit.normal _ (Sort.grow (redrawn wr dq) osq)) | skip
    generalize Sort.grow (redrawn wr dq) osq = W1 at hY ⊢
    have HR2 : Hid (Rr W1 rb s pj ∧ Kp (fun x => x = rb) w W1) := HE.out _ hY
    clear HE hY y0 y1
    obtain ⟨⟨c0, c1⟩, c2⟩ := HR2.out.1.cells
    go_wp2_with fail
    have HV2 : Hid (Rr (W1.setCell ⟨rb, 1, none⟩ (.int .i64 ((pj : Int) + 1))) rb s (p + (j + 1)) ∧ Kp (fun x => x = rb) w (W1.setCell ⟨rb, 1, none⟩ (.int .i64 ((pj : Int) + 1)))) := ⟨by rw [HPJ.out]; exact HR2.out.1.set (pj + 1), HR2.out.2.trans (kp_rb W1 rb 1 _) (fun _ _ q => q)⟩
    refine ⟨⟨j + 1, _, by omega, by go_num, rfl, ?_, HV2⟩, by simp [intOf]; omega⟩
    obtain ⟨m, h1, h0, h2, h3, h4⟩ := HN.out
    exact ⟨m * 256 + (0 : UInt8).toNat, h2, h3, by rw [HPJ.out] at h4 ⊢; exact h4⟩
end Go.Proofs.YtdmiciblfbkndaaDoor

namespace Go.Proofs.YtdmiciblfbkndaaDoor
open Go.RowKit

theorem num_bound (sh acc m : Nat) (hm : m ≤ 127) (hs : acc < 2 ^ sh) (hk : sh ≤ 63) : acc + m * 2 ^ sh % 18446744073709551616 < 18446744073709551616 ∧ acc + m * 2 ^ sh % 18446744073709551616 < 2 ^ (sh + 7) := by
  have hp : 2 ^ sh ≤ 2 ^ 63 := Nat.pow_le_pow_right (by decide) (by omega)
  have h63 : (2 : Nat) ^ 63 = 9223372036854775808 := by decide
  have hmul : m * 2 ^ sh ≤ 127 * 2 ^ sh := Nat.mul_le_mul_right _ hm
  have hp7 : 2 ^ (sh + 7) = 2 ^ sh * 128 := by rw [Nat.pow_add]
  refine ⟨?_, ?_⟩
  · by_cases h9 : sh ≤ 56
    · have : 2 ^ sh ≤ 2 ^ 56 := Nat.pow_le_pow_right (by decide) h9
      have h56 : (2 : Nat) ^ 56 = 72057594037927936 := by decide
      omega
    · have e : sh = 57 ∨ sh = 58 ∨ sh = 59 ∨ sh = 60 ∨ sh = 61 ∨ sh = 62 ∨ sh = 63 := by omega
      rcases e with rfl | rfl | rfl | rfl | rfl | rfl | rfl <;> omega
  · rw [hp7]
    have := Nat.mod_le (m * 2 ^ sh) 18446744073709551616
    omega
/-- Where the reader stands behind a reading: the rest, and not far. -/
structure RrP (w : World) (rb : Nat) (s : ByteArray) (r : List UInt8) (p0 : Nat) (w' : World) : Prop where
  kp : Kp (fun x => x = rb) w w'
  at' : ∃ p, Rr w' rb s p ∧ s.data.toList.drop p = r ∧ p ≤ max p0 s.size
set_option maxRecDepth 100000 in
set_option maxHeartbeats 2000000 in
theorem rnumber_f (w : World) (rb p : Nat) (s : ByteArray) (h : Rr w rb s p) (hp : p ≤ 900000000000000) :
    Calls Tryd.prog 65 #[.pointer (some ⟨rb, 0, none⟩)] w fun e w' => e = .returned (.int .u64 ((nR (s.data.toList.drop p)).1 : Int)) ∧ Hid (RrP w rb s (nR (s.data.toList.drop p)).2 (p + 10) w') := by
  obtain ⟨V, hV⟩ : ∃ V, (nR (s.data.toList.drop p)) = V := ⟨_, rfl⟩
  rw [hV]
  have HV : Hid (numR 10 0 0 (s.data.toList.drop p) = V) := hV
  have HR : Hid (Rr w rb s p ∧ Kp (fun x => x = rb) w w) := ⟨h, Kp.refl _ _⟩
  clear h hV
  go_enter Tryd.func65, Tryd.ntmps65
  go_wp2_with fail
  go_loopw [3, 4, 5] (fun v pw i wr => ∃ (j a b : Nat), j ≤ 10 ∧ i = .int .i64 (j : Int) ∧ v = .int .u64 (a : Int) ∧ pw = .int .u64 (b : Int) ∧ Hid (a < 2 ^ (7 * j) ∧ (j < 10 → b = 2 ^ (7 * j)) ∧ numR (10 - j) (7 * j) a (s.data.toList.drop (p + j)) = V ∧ a < 18446744073709551616) ∧ Hid (Rr wr rb s (p + j) ∧ Kp (fun x => x = rb) w wr)) (fun _ _ i _ => 10 - (intOf i).toNat)
  case atStart => exact ⟨0, 0, 1, by decide, rfl, rfl, rfl, ⟨by decide, fun _ => rfl, HV.out, by decide⟩, HR⟩
  case round =>
    obtain ⟨j, a, b, hj, rfl, rfl, rfl, hx, hr⟩ := hrel
    clear HR
    by_cases hlt : j < 10
    case neg =>
      obtain rfl : j = 10 := by omega
      have HF : Hid (V = (a, s.data.toList.drop (p + 10))) := by
        obtain ⟨-, -, h2, -⟩ := hx.out
        rw [Nat.sub_self] at h2
        exact h2.symm
      clear hlt hj hx
      go_wp2
      first | (change bodyPost Tryd.prog Tryd.f65 _ Exit.ret _ _) | (simp only [Exit.noGoto])
      go_ret
      rw [HF.out]
      exact ⟨rfl, hr.out.2, _, hr.out.1, rfl, Nat.le_max_left _ _⟩
    have j1 : (j : Int) < 10 := by omega
    have HC := rwide_f wr rb 1 (p + j) s hr.out.1 (by omega) (by decide)
    obtain ⟨c, hc⟩ : ∃ c : Nat, wdR 1 (s.data.toList.drop (p + j)) 0 = c := ⟨_, rfl⟩
    have hcb : (byteR (s.data.toList.drop (p + j))).1.toNat = c := by
      rw [← hc]
      show _ = 0 * 256 + _
      omega
    rw [hc] at HC
    have hc8 := UInt8.toNat_lt (byteR (s.data.toList.drop (p + j))).1
    rw [hcb] at hc8
    have HN : Hid (a < 18446744073709551616 ∧ IntKind.u64.wrap ((c : Int) % 128 * (b : Int)) = ((c % 128 * 2 ^ (7 * j) % 18446744073709551616 : Nat) : Int) ∧ a + c % 128 * 2 ^ (7 * j) % 18446744073709551616 < 18446744073709551616 ∧ a + c % 128 * 2 ^ (7 * j) % 18446744073709551616 < 2 ^ (7 * (j + 1)) ∧ (j + 1 < 10 → IntKind.u64.wrap ((b : Int) * 128) = ((2 ^ (7 * (j + 1)) : Nat) : Int)) ∧ (c < 128 → V = (a + c % 128 * 2 ^ (7 * j) % 18446744073709551616, s.data.toList.drop (p + (j + 1)))) ∧ (¬ c < 128 → numR (10 - (j + 1)) (7 * (j + 1)) (a + c % 128 * 2 ^ (7 * j) % 18446744073709551616) (s.data.toList.drop (p + (j + 1))) = V)) := by
      obtain ⟨h1, h2, h3, h4⟩ := hx.out
      have hb := h2 hlt
      have h5 := num_bound (7 * j) a (c % 128) (by omega) h1 (by omega)
      have e7 : 7 * (j + 1) = 7 * j + 7 := by omega
      have hd := byteR_drop s.data.toList (p + j)
      rw [show 10 - j = 10 - (j + 1) + 1 by omega, numR_step, hcb, hd, show 7 * j + 7 = 7 * (j + 1) by omega] at h3
      refine ⟨h4, ?_, h5.1, by rw [e7]; exact h5.2, fun hj9 => ?_, fun q => ?_, fun q => ?_⟩
      · rw [u64w, hb]
        generalize 2 ^ (7 * j) = z
        have e := Int.natCast_emod (c % 128 * z) 18446744073709551616
        rw [Int.natCast_mul, Int.natCast_emod c 128] at e
        exact e.symm
      · rw [u64w, hb, e7, Nat.pow_add]
        have : 2 ^ (7 * j) ≤ 2 ^ 56 := Nat.pow_le_pow_right (by decide) (by omega)
        have h56 : (2 : Nat) ^ 56 = 72057594037927936 := by decide
        generalize 2 ^ (7 * j) = z at *
        omega
      · rw [if_pos q] at h3
        exact h3.symm
      · rw [if_neg q] at h3
        exact h3
    have HJ : Hid (p + j + 1 = p + (j + 1)) := Nat.add_assoc p j 1
    have hc0 : (0 : Int) ≤ (c : Int) := by omega
    have HK : Hid (Kp (fun x => x = rb) w wr) := hr.out.2
    clear hc hcb hx hr
    go_wp2_with fail
    refine HC.mono ?_
    rintro e w2 ⟨rfl, hw2⟩
    have HW : Hid (Rr w2 rb s (p + (j + 1)) ∧ Kp (fun x => x = rb) w w2) := ⟨hw2.out.1, HK.out.trans hw2.out.2 fun _ _ q => q⟩
    clear HC hw2 HK
    obtain ⟨a2, ha2⟩ : ∃ a2 : Nat, a + c % 128 * 2 ^ (7 * j) % 18446744073709551616 = a2 := ⟨_, rfl⟩
    have e1 : ∃ y : Int, IntKind.u64.wrap ((c : Int) % 128 * (b : Int)) = y := ⟨_, rfl⟩
    obtain ⟨y, hy⟩ := e1
    have HY : Hid (IntKind.u64.wrap ((a : Int) + y) = (a2 : Int)) := by
      show IntKind.u64.wrap ((a : Int) + y) = _
      rw [← hy, HN.out.2.1, u64w, ← ha2]
      have := HN.out.2.2.1
      omega
    have HY2 : Hid (IntKind.u64.wrap ((c : Int) % 128 * (b : Int)) = y) := hy
    clear hy
    by_cases h128 : c < 128
    · have q1 : (c : Int) < 128 := by omega
      have HF := HN.out.2.2.2.2.2.1 h128
      rw [ha2] at HF
      have HF2 : Hid (V = (a2, s.data.toList.drop (p + (j + 1)))) := HF
      clear HF HN ha2 h128
      go_wp2
      first | (change bodyPost Tryd.prog Tryd.f65 _ Exit.ret _ _) | (simp only [Exit.noGoto])
      go_ret
      rw [HF2.out]
      refine ⟨?_, HW.out.2, _, HW.out.1, rfl, by omega⟩
      show Ending.returned (Value.int IntKind.u64 (IntKind.u64.wrap ((a : Int) + IntKind.u64.wrap ((c : Int) % 128 * (b : Int))))) = _
      rw [HY2.out, HY.out]
    · have q1 : ¬ (c : Int) < 128 := by omega
      go_wp2
      refine ⟨⟨j + 1, a2, (IntKind.u64.wrap ((b : Int) * 128)).toNat, by omega, by go_num, ?_, ?_, ⟨?_, ?_, ?_, ?_⟩, HW⟩, by simp [intOf]; omega⟩
      · rw [HY2.out, HY.out]
      · rw [u64w]
        rw [Int.toNat_of_nonneg (by omega)]
      · rw [← ha2]; exact HN.out.2.2.2.1
      · intro hj9
        rw [HN.out.2.2.2.2.1 hj9]
        rfl
      · have := HN.out.2.2.2.2.2.2 h128
        rw [ha2] at this
        exact this
      · rw [← ha2]; exact HN.out.2.2.1
end Go.Proofs.YtdmiciblfbkndaaDoor
