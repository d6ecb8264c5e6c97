import Derived.Test.YtdcioemjmmhbhaaDoorRLs
import Derived.Test.YtdcioemjmmhbhaaDoorRSv
import Derived.Test.YtdcioemjmmhbhaaDoorRdQ
namespace Go.Proofs.YtdcioemjmmhbhaaDoor
open Go.RowKit

theorem toList_inj {s t : ByteArray} (h : s.toList = t.toList) : s = t := by
  rw [ByteArray.toList_eq, ByteArray.toList_eq] at h
  exact ByteArray.ext (Array.toList_inj.1 h)
/-- What the reference's Load answers. -/
def RLoaded (w w' : World) (l : Int) (b : ByteArray) (e : Ending) : Prop :=
  (e = .returned (.tuple #[.pointer none, .int .i64 161]) ∧ Below w.heap.size w w' ∧ ∀ A, ¬ Good l b A) ∨
  (e = .returned (.tuple #[.pointer (some ⟨w.heap.size, 0, none⟩), .int .i64 0]) ∧ Below w.heap.size w w' ∧ ∃ (A' : Hp) (F' : Nat → Prop), RefOf w' w.heap.size (limS l) A' 100000 F' ∧ (∀ x, F' x → w.heap.size ≤ x) ∧ Good l b A' ∧ ∀ A, Good l b A → A' = A)

set_option maxRecDepth 100000 in
set_option maxHeartbeats 4000000 in
theorem rload_any (w : World) (l : Int) (b : ByteArray) (hb : b.size ≤ 281474976710656) :
    Calls Tryd.prog 24 #[.int .i64 l, .string b] w fun e w' => RLoaded w w' l b e := by
  have nw := rnew_any l w
  have HNO : Hid (∀ W, Below w.heap.size w W → (∀ A, ¬ Good l b A) → RLoaded w W l b (.returned (.tuple #[.pointer none, .int .i64 161]))) := fun W hW hA => .inl ⟨rfl, hW, hA⟩
  have hlim := limS_le l
  go_enter Tryd.func24, Tryd.ntmps24
  go_wp2_with fail
  refine nw.mono ?_
  rintro e w1 ⟨rfl, h1, b1⟩
  have HST : Hid (LS w w1 (limS l) (.slice none 0 0) [] [] 0 (fun b => b = w.heap.size) ∧ OutC l b 0 [] [] 9) := by
    refine ⟨{ below := b1, row := World.ownsRow_nil _ _ _ _, ref := h1.out, fF := fun x hx => ?_, fR := fun g hg => (by cases hg), ok := fun a ha => (by cases ha), vals := fun d hd => (by cases hd) }, out_start l b⟩
    have : x = w.heap.size := hx
    omega
  clear nw h1 b1
  go_wp2_with fail
  go_loopw [7, 8, 9] (fun v7 v8 v9 wr => ∃ (A' : Hp) (P : List Dn) (o : Nat) (F' : Nat → Prop), v8 = .int .i64 (o : Int) ∧ v9 = .int .u64 (A'.length : Int) ∧ o ≤ 9 + 9 * A'.length + 65537 * P.length ∧ P.length + A'.length = usedS A' ∧ Hid (LS w wr (limS l) v7 P A' 0 F' ∧ OutC l b A'.length A' P o)) (fun _ v8 _ _ => b.size - (intOf v8).toNat)
  case atStart => exact ⟨[], [], 9, _, rfl, rfl, by simp, rfl, HST⟩
  case round =>
    obtain ⟨A', P, o, F', rfl, rfl, ho, hpu, hS⟩ := hrel
    clear HST
    have hu := hS.out.1.ref.used
    have hAl := used_ge A'
    have hn8 := rnumber_any wr b 1 8 (by omega)
    by_cases hc : (A'.length : Int) < numR b 1 8 ∧ o < b.size
    case neg =>
      have HPC : Hid (PutC l b 0 A' P) := hS.out.2.over hc
      by_cases hc1 : (A'.length : Int) < numR b 1 8
      · have hc2 : ¬ (o : Int) < (b.size : Int) := fun q => hc ⟨hc1, by omega⟩
        have hc2n : ¬ o < b.size := fun q => hc ⟨hc1, q⟩
        obtain ⟨m8, hm8⟩ : ∃ m, numR b 1 8 = m := ⟨_, rfl⟩
        rw [hm8] at hn8 hc1
        clear hm8 hc
        have HS2 : Hid (LS w wr (limS l) u7 P A' 0 F' ∧ PutC l b 0 A' P) := ⟨hS.out.1, HPC.out⟩
        obtain ⟨q7, c7, rfl, -⟩ := hS.out.1.at'
        clear hS HPC
        go_wp2_with (first | (go_at_call 44; refine hn8.mono ?_; rintro e w3 ⟨rfl, rfl⟩) | fail)
        try rw [decide_eq_false hc2n]
        go_loopw [17] (fun v17 wr => ∃ (i : Nat) (A2 : Hp) (F2 : Nat → Prop), i ≤ P.length ∧ v17 = .int .i64 (i : Int) ∧ Hid (LS w wr (limS l) (.slice q7 P.length c7) P A2 i F2 ∧ PutC l b i A2 P)) (fun v _ => P.length - (intOf v).toNat)
        case atStart => exact ⟨0, A', F', Nat.zero_le _, rfl, HS2⟩
        case round =>
          obtain ⟨i, A2, F2, hi, rfl, hT⟩ := hrel
          clear HS2
          by_cases hlt : i < P.length
          case neg =>
            obtain rfl : i = P.length := by omega
            have hsv := rsave_any hT.out.1.ref (by omega) (fun a ha v hv => may_small ((hT.out.1.ok a ha).2 v hv).1)
            have HFN : Hid (∀ W, Below wr.heap.size wr W → (str (saveS A2) = b → RLoaded w W l b (.returned (.tuple #[.pointer (some ⟨w.heap.size, 0, none⟩), .int .i64 0]))) ∧ (str (saveS A2) ≠ b → RLoaded w W l b (.returned (.tuple #[.pointer none, .int .i64 161])))) := fun W hW => by
              have hLW := hT.out.1.next hW
              refine ⟨fun e => .inr ⟨rfl, hLW.below, A2, F2, hLW.ref.more (by omega), hLW.fF, ⟨hLW.ok, hLW.ref.used, e.symm⟩, fun A hA => hT.out.2.over hA⟩, fun e => HNO.out W hLW.below (fun A hA => e ?_)⟩
              rw [hT.out.2.over hA]
              exact hA.2.2.symm
            rw [show (⟨(saveS A2).toArray⟩ : ByteArray) = str (saveS A2) from rfl] at hsv
            generalize str (saveS A2) = sv at hsv HFN
            have hnl : ¬ ((P.length : Int) < (P.length : Int)) := by omega
            clear hT HNO
            by_cases hbk : sv = b
            · subst hbk
              have hcmp : (sv.toList == sv.toList) = true := by simp
              go_wp2_with fail
              refine hsv.mono ?_
              rintro e w4 ⟨rfl, hb4⟩
              have HF' : Hid (RLoaded w w4 l sv (.returned (.tuple #[.pointer (some ⟨w.heap.size, 0, none⟩), .int .i64 0]))) := (HFN.out w4 hb4).1 (by trivial)
              clear HFN hsv
              go_wp2_with fail
              exact bodyPost_ret (v := .tuple #[.pointer (some ⟨w.heap.size, 0, none⟩), .int .i64 0]) (by simp [results, Tryd.results24, go_sem]) rfl HF'.out
            · have hcmp : (sv.toList == b.toList) = false := by
                rw [beq_eq_false_iff_ne]
                exact fun e => hbk (toList_inj e)
              go_wp2_with fail
              refine hsv.mono ?_
              rintro e w4 ⟨rfl, hb4⟩
              have HF' : Hid (RLoaded w w4 l b (.returned (.tuple #[.pointer none, .int .i64 161]))) := (HFN.out w4 hb4).2 hbk
              clear HFN hsv hbk
              go_wp2_with fail
              exact bodyPost_ret (v := .tuple #[.pointer none, .int .i64 161]) (by simp [results, Tryd.results24, go_sem]) rfl HF'.out
          obtain ⟨q', c', e', hat⟩ := hT.out.1.at'
          cases e'
          obtain ⟨g, rfl, hob, d0, d1, d2, d3, d4⟩ := hat i hlt
          obtain ⟨hin, hsz⟩ := hT.out.1.vals P[i] (List.getElem_mem hlt)
          have HPP : Hid (∀ A, Good l b A → (putH A2 (4, (P[i].1 : Int), e0) (P[i].2.1 : Int) P[i].2.2).2 = 0) := fun A hA => by rw [hT.out.2.put hlt hA]
          have HPS : Hid (PutC l b (i + 1) (putH A2 (4, (P[i].1 : Int), e0) (P[i].2.1 : Int) P[i].2.2).1 P) := hT.out.2.step hlt
          have HOK : Hid ((putH A2 (4, (P[i].1 : Int), e0) (P[i].2.1 : Int) P[i].2.2).2 = 0 → okH (putH A2 (4, (P[i].1 : Int), e0) (P[i].2.1 : Int) P[i].2.2).1 (putH A2 (4, (P[i].1 : Int), e0) (P[i].2.1 : Int) P[i].2.2).1.length) := fun e => okH_put hT.out.1.ok e hin
          have hpp := fun W (hW : Below wr.heap.size wr W) => rput_any (hT.out.1.ref.next hW) (by omega) (4, (P[i].1 : Int), e0) (P[i].2.1 : Int) P[i].2.2 (by omega)
          generalize P[i] = d at d0 d1 d2 d3 d4 hin hsz HPP HPS HOK hpp
          obtain ⟨dn, di, xk, xn, xs⟩ := d
          simp only at d0 d1 d2 d3 d4 hin hsz HPP HPS HOK hpp
          generalize putH A2 (4, (dn : Int), e0) (di : Int) (xk, xn, xs) = R at HPP HPS HOK hpp
          obtain ⟨M1, mt⟩ := R
          simp only at HPP HPS HOK hpp
          have HPT : Hid (∀ W, Below wr.heap.size wr W → Calls Tryd.prog 47 #[.pointer (some ⟨w.heap.size, 0, none⟩), .agg #[.int .i64 4, .int .i64 (dn : Int), .string e0], .int .i64 (di : Int), .agg #[.int .i64 xk, .int .i64 xn, .string xs]] W fun e w' => ∃ v, e = .returned v ∧ (v = .int .i64 mt ∧ Hid (∃ F3, RefOf w' w.heap.size (limS l) M1 (i + 1) F3 ∧ Kp F2 W w' ∧ ∀ b, F3 b → F2 b ∨ W.heap.size ≤ b))) := fun W hW => (hpp W hW).mono fun e w' ⟨e1, e2⟩ => ⟨_, e1, rfl, e2⟩
          have hgl : g < wr.heap.size := (hT.out.1.row.lt g hob).2
          have hgF : ¬ F2 g := (hT.out.1.fR g hob).2
          have SV : Hid (∀ W, Kp F2 wr W → W.cell? ⟨g, i * 5, none⟩ = some (.int .i64 (dn : Int)) ∧ W.cell? ⟨g, i * 5 + 1, none⟩ = some (.int .i64 (di : Int)) ∧ W.cell? ⟨g, i * 5 + 2, none⟩ = some (.int .i64 xk) ∧ W.cell? ⟨g, i * 5 + 3, none⟩ = some (.int .i64 xn) ∧ W.cell? ⟨g, i * 5 + 4, none⟩ = some (.string xs) ∧ Kp F2 wr W) := fun W hW => by
            have e1 := hW.block g hgl hgF
            exact ⟨(World.cell?_of_block (a := ⟨g, i * 5, none⟩) e1).trans d0, (World.cell?_of_block (a := ⟨g, i * 5 + 1, none⟩) e1).trans d1, (World.cell?_of_block (a := ⟨g, i * 5 + 2, none⟩) e1).trans d2, (World.cell?_of_block (a := ⟨g, i * 5 + 3, none⟩) e1).trans d3, (World.cell?_of_block (a := ⟨g, i * 5 + 4, none⟩) e1).trans d4, hW⟩
          have hcd : Kp F2 wr wr.drew := Kp.of (Below.refl _ _).drew
          have i0 : (0 : Int) ≤ (i : Int) := by omega
          have i1 : (i : Int) < (P.length : Int) := by omega
          have HLT : Hid (LS w wr (limS l) (.slice (some ⟨g, 0, none⟩) P.length c7) P A2 i F2) := hT.out.1
          clear hT hat hpp d0 d1 d2 d3 d4 hob
          go_wp2_with fail
          go_region_held3 (fun w' => w'.cell? ⟨g, i * 5, none⟩ = some (.int .i64 (dn : Int)) ∧ w'.cell? ⟨g, i * 5 + 1, none⟩ = some (.int .i64 (di : Int)) ∧ w'.cell? ⟨g, i * 5 + 2, none⟩ = some (.int .i64 xk) ∧ w'.cell? ⟨g, i * 5 + 3, none⟩ = some (.int .i64 xn) ∧ w'.cell? ⟨g, i * 5 + 4, none⟩ = some (.string xs) ∧ Kp F2 wr w') (exact SV.out _ (by assumption))
            (first
            | (go_at_call 47; refine (HPT.out _ (Below.refl _ _).drew).mono ?_; rintro e w3 ⟨v3', rfl, rfl, hq3⟩; replace hcd : Kp F2 wr w3 := (by obtain ⟨F3, -, k, -⟩ := hq3.out; exact (Kp.of (F := F2) (Below.refl _ wr).drew).trans k (fun _ _ q => q))))
          have HKX : Hid (Kp F2 wr w3) := hcd
          clear hcd SV HPT
          by_cases hmt : mt = 0
          · subst hmt
            have HNX : Hid (∃ F3, LS w w3 (limS l) (.slice (some ⟨g, 0, none⟩) P.length c7) P M1 (i + 1) F3 ∧ PutC l b (i + 1) M1 P) := by
              obtain ⟨F3, q1, q2, q3⟩ := hq3.out
              exact ⟨F3, HLT.out.turn HKX.out q1 q3 (HOK.out rfl), HPS.out⟩
            clear hq3 HKX HLT HOK HPS HPP
            go_wp2_with fail
            obtain ⟨F3, n1, n2⟩ := HNX.out
            exact ⟨⟨i + 1, M1, F3, by omega, by go_num, ⟨n1, n2⟩⟩, by simp [intOf]; omega⟩
          · have hmt' : (mt == 0) = false := by simpa using hmt
            have HF' : Hid (RLoaded w w3 l b (.returned (.tuple #[.pointer none, .int .i64 161]))) := HNO.out w3 (HLT.out.below.trans (HKX.out.below (fun x hx => HLT.out.fF x hx) HLT.out.below.size)) (fun A hA => hmt (HPP.out A hA))
            clear hq3 HKX HLT HOK HPS HPP
            go_wp2_with fail
            exact bodyPost_ret (v := .tuple #[.pointer none, .int .i64 161]) (by simp [results, Tryd.results24, go_sem]) rfl HF'.out
      · obtain ⟨m8, hm8⟩ : ∃ m, numR b 1 8 = m := ⟨_, rfl⟩
        rw [hm8] at hn8 hc1
        clear hm8 hc
        have HS2 : Hid (LS w wr (limS l) u7 P A' 0 F' ∧ PutC l b 0 A' P) := ⟨hS.out.1, HPC.out⟩
        obtain ⟨q7, c7, rfl, -⟩ := hS.out.1.at'
        clear hS HPC
        go_wp2_with (first | (go_at_call 44; refine hn8.mono ?_; rintro e w3 ⟨rfl, rfl⟩) | fail)
        go_loopw [17] (fun v17 wr => ∃ (i : Nat) (A2 : Hp) (F2 : Nat → Prop), i ≤ P.length ∧ v17 = .int .i64 (i : Int) ∧ Hid (LS w wr (limS l) (.slice q7 P.length c7) P A2 i F2 ∧ PutC l b i A2 P)) (fun v _ => P.length - (intOf v).toNat)
        case atStart => exact ⟨0, A', F', Nat.zero_le _, rfl, HS2⟩
        case round =>
          obtain ⟨i, A2, F2, hi, rfl, hT⟩ := hrel
          clear HS2
          by_cases hlt : i < P.length
          case neg =>
            obtain rfl : i = P.length := by omega
            have hsv := rsave_any hT.out.1.ref (by omega) (fun a ha v hv => may_small ((hT.out.1.ok a ha).2 v hv).1)
            have HFN : Hid (∀ W, Below wr.heap.size wr W → (str (saveS A2) = b → RLoaded w W l b (.returned (.tuple #[.pointer (some ⟨w.heap.size, 0, none⟩), .int .i64 0]))) ∧ (str (saveS A2) ≠ b → RLoaded w W l b (.returned (.tuple #[.pointer none, .int .i64 161])))) := fun W hW => by
              have hLW := hT.out.1.next hW
              refine ⟨fun e => .inr ⟨rfl, hLW.below, A2, F2, hLW.ref.more (by omega), hLW.fF, ⟨hLW.ok, hLW.ref.used, e.symm⟩, fun A hA => hT.out.2.over hA⟩, fun e => HNO.out W hLW.below (fun A hA => e ?_)⟩
              rw [hT.out.2.over hA]
              exact hA.2.2.symm
            rw [show (⟨(saveS A2).toArray⟩ : ByteArray) = str (saveS A2) from rfl] at hsv
            generalize str (saveS A2) = sv at hsv HFN
            have hnl : ¬ ((P.length : Int) < (P.length : Int)) := by omega
            clear hT HNO
            by_cases hbk : sv = b
            · subst hbk
              have hcmp : (sv.toList == sv.toList) = true := by simp
              go_wp2_with fail
              refine hsv.mono ?_
              rintro e w4 ⟨rfl, hb4⟩
              have HF' : Hid (RLoaded w w4 l sv (.returned (.tuple #[.pointer (some ⟨w.heap.size, 0, none⟩), .int .i64 0]))) := (HFN.out w4 hb4).1 (by trivial)
              clear HFN hsv
              go_wp2_with fail
              exact bodyPost_ret (v := .tuple #[.pointer (some ⟨w.heap.size, 0, none⟩), .int .i64 0]) (by simp [results, Tryd.results24, go_sem]) rfl HF'.out
            · have hcmp : (sv.toList == b.toList) = false := by
                rw [beq_eq_false_iff_ne]
                exact fun e => hbk (toList_inj e)
              go_wp2_with fail
              refine hsv.mono ?_
              rintro e w4 ⟨rfl, hb4⟩
              have HF' : Hid (RLoaded w w4 l b (.returned (.tuple #[.pointer none, .int .i64 161]))) := (HFN.out w4 hb4).2 hbk
              clear HFN hsv hbk
              go_wp2_with fail
              exact bodyPost_ret (v := .tuple #[.pointer none, .int .i64 161]) (by simp [results, Tryd.results24, go_sem]) rfl HF'.out
          obtain ⟨q', c', e', hat⟩ := hT.out.1.at'
          cases e'
          obtain ⟨g, rfl, hob, d0, d1, d2, d3, d4⟩ := hat i hlt
          obtain ⟨hin, hsz⟩ := hT.out.1.vals P[i] (List.getElem_mem hlt)
          have HPP : Hid (∀ A, Good l b A → (putH A2 (4, (P[i].1 : Int), e0) (P[i].2.1 : Int) P[i].2.2).2 = 0) := fun A hA => by rw [hT.out.2.put hlt hA]
          have HPS : Hid (PutC l b (i + 1) (putH A2 (4, (P[i].1 : Int), e0) (P[i].2.1 : Int) P[i].2.2).1 P) := hT.out.2.step hlt
          have HOK : Hid ((putH A2 (4, (P[i].1 : Int), e0) (P[i].2.1 : Int) P[i].2.2).2 = 0 → okH (putH A2 (4, (P[i].1 : Int), e0) (P[i].2.1 : Int) P[i].2.2).1 (putH A2 (4, (P[i].1 : Int), e0) (P[i].2.1 : Int) P[i].2.2).1.length) := fun e => okH_put hT.out.1.ok e hin
          have hpp := fun W (hW : Below wr.heap.size wr W) => rput_any (hT.out.1.ref.next hW) (by omega) (4, (P[i].1 : Int), e0) (P[i].2.1 : Int) P[i].2.2 (by omega)
          generalize P[i] = d at d0 d1 d2 d3 d4 hin hsz HPP HPS HOK hpp
          obtain ⟨dn, di, xk, xn, xs⟩ := d
          simp only at d0 d1 d2 d3 d4 hin hsz HPP HPS HOK hpp
          generalize putH A2 (4, (dn : Int), e0) (di : Int) (xk, xn, xs) = R at HPP HPS HOK hpp
          obtain ⟨M1, mt⟩ := R
          simp only at HPP HPS HOK hpp
          have HPT : Hid (∀ W, Below wr.heap.size wr W → Calls Tryd.prog 47 #[.pointer (some ⟨w.heap.size, 0, none⟩), .agg #[.int .i64 4, .int .i64 (dn : Int), .string e0], .int .i64 (di : Int), .agg #[.int .i64 xk, .int .i64 xn, .string xs]] W fun e w' => ∃ v, e = .returned v ∧ (v = .int .i64 mt ∧ Hid (∃ F3, RefOf w' w.heap.size (limS l) M1 (i + 1) F3 ∧ Kp F2 W w' ∧ ∀ b, F3 b → F2 b ∨ W.heap.size ≤ b))) := fun W hW => (hpp W hW).mono fun e w' ⟨e1, e2⟩ => ⟨_, e1, rfl, e2⟩
          have hgl : g < wr.heap.size := (hT.out.1.row.lt g hob).2
          have hgF : ¬ F2 g := (hT.out.1.fR g hob).2
          have SV : Hid (∀ W, Kp F2 wr W → W.cell? ⟨g, i * 5, none⟩ = some (.int .i64 (dn : Int)) ∧ W.cell? ⟨g, i * 5 + 1, none⟩ = some (.int .i64 (di : Int)) ∧ W.cell? ⟨g, i * 5 + 2, none⟩ = some (.int .i64 xk) ∧ W.cell? ⟨g, i * 5 + 3, none⟩ = some (.int .i64 xn) ∧ W.cell? ⟨g, i * 5 + 4, none⟩ = some (.string xs) ∧ Kp F2 wr W) := fun W hW => by
            have e1 := hW.block g hgl hgF
            exact ⟨(World.cell?_of_block (a := ⟨g, i * 5, none⟩) e1).trans d0, (World.cell?_of_block (a := ⟨g, i * 5 + 1, none⟩) e1).trans d1, (World.cell?_of_block (a := ⟨g, i * 5 + 2, none⟩) e1).trans d2, (World.cell?_of_block (a := ⟨g, i * 5 + 3, none⟩) e1).trans d3, (World.cell?_of_block (a := ⟨g, i * 5 + 4, none⟩) e1).trans d4, hW⟩
          have hcd : Kp F2 wr wr.drew := Kp.of (Below.refl _ _).drew
          have i0 : (0 : Int) ≤ (i : Int) := by omega
          have i1 : (i : Int) < (P.length : Int) := by omega
          have HLT : Hid (LS w wr (limS l) (.slice (some ⟨g, 0, none⟩) P.length c7) P A2 i F2) := hT.out.1
          clear hT hat hpp d0 d1 d2 d3 d4 hob
          go_wp2_with fail
          go_region_held3 (fun w' => w'.cell? ⟨g, i * 5, none⟩ = some (.int .i64 (dn : Int)) ∧ w'.cell? ⟨g, i * 5 + 1, none⟩ = some (.int .i64 (di : Int)) ∧ w'.cell? ⟨g, i * 5 + 2, none⟩ = some (.int .i64 xk) ∧ w'.cell? ⟨g, i * 5 + 3, none⟩ = some (.int .i64 xn) ∧ w'.cell? ⟨g, i * 5 + 4, none⟩ = some (.string xs) ∧ Kp F2 wr w') (exact SV.out _ (by assumption))
            (first
            | (go_at_call 47; refine (HPT.out _ (Below.refl _ _).drew).mono ?_; rintro e w3 ⟨v3', rfl, rfl, hq3⟩; replace hcd : Kp F2 wr w3 := (by obtain ⟨F3, -, k, -⟩ := hq3.out; exact (Kp.of (F := F2) (Below.refl _ wr).drew).trans k (fun _ _ q => q))))
          have HKX : Hid (Kp F2 wr w3) := hcd
          clear hcd SV HPT
          by_cases hmt : mt = 0
          · subst hmt
            have HNX : Hid (∃ F3, LS w w3 (limS l) (.slice (some ⟨g, 0, none⟩) P.length c7) P M1 (i + 1) F3 ∧ PutC l b (i + 1) M1 P) := by
              obtain ⟨F3, q1, q2, q3⟩ := hq3.out
              exact ⟨F3, HLT.out.turn HKX.out q1 q3 (HOK.out rfl), HPS.out⟩
            clear hq3 HKX HLT HOK HPS HPP
            go_wp2_with fail
            obtain ⟨F3, n1, n2⟩ := HNX.out
            exact ⟨⟨i + 1, M1, F3, by omega, by go_num, ⟨n1, n2⟩⟩, by simp [intOf]; omega⟩
          · have hmt' : (mt == 0) = false := by simpa using hmt
            have HF' : Hid (RLoaded w w3 l b (.returned (.tuple #[.pointer none, .int .i64 161]))) := HNO.out w3 (HLT.out.below.trans (HKX.out.below (fun x hx => HLT.out.fF x hx) HLT.out.below.size)) (fun A hA => hmt (HPP.out A hA))
            clear hq3 HKX HLT HOK HPS HPP
            go_wp2_with fail
            exact bodyPost_ret (v := .tuple #[.pointer none, .int .i64 161]) (by simp [results, Tryd.results24, go_sem]) rfl HF'.out
    obtain ⟨hc1, hc2⟩ := hc
    have hc2' : (o : Int) < (b.size : Int) := by omega
    have hk1 := rnumber_any wr b o 1 (by omega)
    have hk2 := rnumber_any wr b (o + 1) 8 (by omega)
    have hkr := numR_one b o
    have hLr := numR_u b (o + 1) 8
    obtain ⟨kd, hkd⟩ : ∃ m, numR b o 1 = m := ⟨_, rfl⟩
    obtain ⟨L, hL⟩ : ∃ m, numR b (o + 1) 8 = m := ⟨_, rfl⟩
    obtain ⟨m8, hm8⟩ : ∃ m, numR b 1 8 = m := ⟨_, rfl⟩
    have HKD : Hid (∀ A, Good l b A → o + 9 + L.toNat ≤ b.size) := fun A hA => by
      obtain ⟨a, q1, q2, q3, q4⟩ := hS.out.2.head hc2 hA
      rw [← hL, q3, Int.toNat_natCast]
      exact q4
    have HMK : Hid (∀ A, Good l b A → (makeH A' (limS l) kd L).2.2 = 0) := fun A hA => by rw [← hkd, ← hL]; exact hS.out.2.make hc2 hA
    have HEN : Hid (∀ ln : Nat, L = (ln : Int) → InC l b A'.length kd ln (A' ++ [(kd, List.replicate ln (kd, 0, e0))]) P (o + 9) 0) := fun ln hl => hS.out.2.enter hc2 _ ln hkd (hL.trans hl)
    rw [hkd] at hk1 hkr
    rw [hL] at hk2 hLr
    rw [hm8] at hn8 hc1
    clear hkd hL hm8
    have w1 : IntKind.i64.wrap kd = kd := by rw [IntKind.wrap_i64]; omega
    have w2 : IntKind.i64.wrap ((o : Int) + 1) = ((o + 1 : Nat) : Int) := by rw [IntKind.wrap_i64]; omega
    have w3 : IntKind.i64.wrap ((o : Int) + 9) = ((o + 9 : Nat) : Int) := by rw [IntKind.wrap_i64]; omega
    by_cases hc3 : b.size < o + 9
    · have hc3' : (b.size : Int) < ((o + 9 : Nat) : Int) := by omega
      have HB := HNO.out wr hS.out.1.below (fun A hA => by have := HKD.out A hA; omega)
      have HB' : Hid (RLoaded w wr l b (.returned (.tuple #[.pointer none, .int .i64 161]))) := HB
      clear HB hS HKD HMK HEN HNO
      go_wp2_with fail
      refine hn8.mono ?_
      rintro e w3 ⟨rfl, rfl⟩
      clear hn8
      go_wp2_with fail
      refine hk1.mono ?_
      rintro e w3 ⟨rfl, rfl⟩
      clear hk1
      go_wp2_with fail
      refine hk2.mono ?_
      rintro e w3 ⟨rfl, rfl⟩
      clear hk2
      go_wp2_with fail
      exact bodyPost_ret (v := .tuple #[.pointer none, .int .i64 161]) (by simp [results, Tryd.results24, go_sem]) rfl HB'.out
    have hc3' : ¬ (b.size : Int) < ((o + 9 : Nat) : Int) := by omega
    have w4 : IntKind.i64.wrap ((b.size : Int) - ((o + 9 : Nat) : Int)) = ((b.size - (o + 9) : Nat) : Int) := by rw [IntKind.wrap_i64]; omega
    have w5 : IntKind.u64.wrap ((b.size - (o + 9) : Nat) : Int) = ((b.size - (o + 9) : Nat) : Int) := by rw [IntKind.wrap_u64]; omega
    by_cases hc4 : ((b.size - (o + 9) : Nat) : Int) < L
    · have HB := HNO.out wr hS.out.1.below (fun A hA => by have := HKD.out A hA; omega)
      have HB' : Hid (RLoaded w wr l b (.returned (.tuple #[.pointer none, .int .i64 161]))) := HB
      clear HB hS HKD HMK HEN HNO
      go_wp2_with fail
      refine hn8.mono ?_
      rintro e w3 ⟨rfl, rfl⟩
      clear hn8
      go_wp2_with fail
      refine hk1.mono ?_
      rintro e w3 ⟨rfl, rfl⟩
      clear hk1
      go_wp2_with fail
      refine hk2.mono ?_
      rintro e w3 ⟨rfl, rfl⟩
      clear hk2
      go_wp2_with fail
      exact bodyPost_ret (v := .tuple #[.pointer none, .int .i64 161]) (by simp [results, Tryd.results24, go_sem]) rfl HB'.out
    obtain ⟨ln, rfl⟩ : ∃ ln : Nat, L = (ln : Int) := ⟨L.toNat, by omega⟩
    have w6 : IntKind.i64.wrap (ln : Int) = (ln : Int) := by rw [IntKind.wrap_i64]; omega
    have hmk := rmake_any hS.out.1.ref kd (ln : Int)
    by_cases hM : (makeH A' (limS l) kd (ln : Int)).2.2 = 0
    case neg =>
      have HBN : Hid (∀ W, Below w.heap.size w W → RLoaded w W l b (.returned (.tuple #[.pointer none, .int .i64 161]))) := fun W hW => HNO.out W hW (fun A hA => hM (HMK.out A hA))
      obtain ⟨t, ht, hR⟩ := make_not hM
      rw [hR] at hmk
      simp only at hmk
      rw [show (vc zv).toArray = #[.int .i64 0, .int .i64 0, .string e0] from rfl] at hmk
      have HLS : Hid (LS w wr (limS l) u7 P A' 0 F') := hS.out.1
      have ht' : (t == 0) = false := by simpa using ht
      clear hS HKD HMK HEN HNO hR hM
      go_wp2_with fail
      refine hn8.mono ?_
      rintro e w3 ⟨rfl, rfl⟩
      clear hn8
      go_wp2_with fail
      refine hk1.mono ?_
      rintro e w3 ⟨rfl, rfl⟩
      clear hk1
      go_wp2_with fail
      refine hk2.mono ?_
      rintro e w3 ⟨rfl, rfl⟩
      clear hk2
      go_wp2_with fail
      refine hmk.mono ?_
      rintro e w3 ⟨rfl, hq3⟩
      have HB' : Hid (∀ o, RLoaded w (w3.alloc o) l b (.returned (.tuple #[.pointer none, .int .i64 161]))) := fun o => by
        obtain ⟨F3, h3, k3, s3⟩ := hq3.out
        have B3 : Below w.heap.size w w3 := HLS.out.below.trans (k3.below (fun x hx => HLS.out.fF x hx) HLS.out.below.size)
        exact HBN.out _ (B3.alloc B3.size o)
      clear hq3 HLS HBN hmk
      go_wp2_with fail
      exact bodyPost_ret (v := .tuple #[.pointer none, .int .i64 161]) (by simp [results, Tryd.results24, go_sem]) rfl (HB'.out _)
    obtain ⟨hk, n, hn, hle, hR⟩ := make_yes hM
    obtain rfl : n = ln := by omega
    rw [hR] at hmk
    simp only at hmk
    rw [show (vc (4, (A'.length : Int) + 1, e0)).toArray = #[.int .i64 4, .int .i64 ((A'.length : Int) + 1), .string e0] from rfl] at hmk
    have HLS : Hid (LS w wr (limS l) u7 P A' 0 F') := hS.out.1
    have HIN := HEN.out n rfl
    have HIN' : Hid (InC l b A'.length kd n (A' ++ [(kd, List.replicate n (kd, 0, e0))]) P (o + 9) 0) := HIN
    clear HIN hS HKD HMK HEN hM hR
    go_wp2_with fail
    refine hn8.mono ?_
    rintro e w3 ⟨rfl, rfl⟩
    clear hn8
    go_wp2_with fail
    refine hk1.mono ?_
    rintro e w3 ⟨rfl, rfl⟩
    clear hk1
    go_wp2_with fail
    refine hk2.mono ?_
    rintro e w3 ⟨rfl, rfl⟩
    clear hk2
    go_wp2_with fail
    refine hmk.mono ?_
    rintro e w3 ⟨rfl, hq3⟩
    have bx := Box3.new w3 4 ((A'.length : Int) + 1) e0 37
    have HL3 : Hid (∃ F3, LS w (w3.alloc (.cells #[.int .i64 4, .int .i64 ((A'.length : Int) + 1), .string e0] 37)) (limS l) u7 P (A' ++ [(kd, List.replicate n (kd, 0, e0))]) 0 F3) := by
      obtain ⟨F3, h3, k3, s3⟩ := hq3.out
      exact ⟨F3, (HLS.out.turn k3 h3 s3 (okH_make HLS.out.ok hk)).next ((Below.refl _ w3).alloc (Nat.le_refl _) _)⟩
    have HU7 : ∀ g, u7.ownBlock = some g → g ≠ w3.heap.size := fun g hg => by
      obtain ⟨F3, h3, k3, s3⟩ := hq3.out
      have h4 := (HLS.out.row.lt g hg).2
      have h5 := k3.size
      omega
    have zX : w3.heap.size < (w3.alloc (.cells #[.int .i64 4, .int .i64 ((A'.length : Int) + 1), .string e0] 37)).heap.size := by simp
    clear hq3 HLS hmk
    go_wp2_with fail
    generalize w3.alloc (.cells #[.int .i64 4, .int .i64 ((A'.length : Int) + 1), .string e0] 37) = X at bx HL3 zX ⊢
    generalize w3.heap.size = rb at bx zX HU7 ⊢
    obtain ⟨F3, HL4⟩ := HL3.out
    have HIL : Hid (LS w X (limS l) u7 P (A' ++ [(kd, List.replicate n (kd, 0, e0))]) 0 F3 ∧ InC l b A'.length kd n (A' ++ [(kd, List.replicate n (kd, 0, e0))]) P (o + 9) 0) := ⟨HL4, HIN'.out⟩
    have HBX : Hid (Box3 X rb 4 ((A'.length : Int) + 1) e0 ∧ ∀ g, u7.ownBlock = some g → g ≠ rb) := ⟨bx, HU7⟩
    have hA2 : (A' ++ [(kd, List.replicate n (kd, 0, e0))]).length = A'.length + 1 := by simp
    have hU2 : usedS (A' ++ [(kd, List.replicate n (kd, 0, e0))]) = usedS A' + (n + 1) := by rw [used_app]; simp [usedS]
    generalize A' ++ [(kd, List.replicate n (kd, 0, e0))] = A2 at HIL hA2 hU2
    clear HL4 HL3 HIN' bx
    go_loopw [7, 8, 14] (fun v7 v8 v14 wr => ∃ (P' : List Dn) (o' j : Nat), j ≤ n ∧ v8 = .int .i64 (o' : Int) ∧ v14 = .int .u64 (j : Int) ∧ P'.length = P.length + j ∧ o + 9 ≤ o' ∧ o' ≤ 9 + 9 * (A'.length + 1) + 65537 * P'.length ∧ Hid (LS w wr (limS l) v7 P' A2 0 F3 ∧ InC l b A'.length kd n A2 P' o' j) ∧ Hid (Box3 wr rb 4 ((A'.length : Int) + 1) e0 ∧ ∀ g, v7.ownBlock = some g → g ≠ rb)) (fun _ _ v14 _ => n - (intOf v14).toNat)
    case atStart => exact ⟨P, o + 9, 0, Nat.zero_le _, by first | rfl | (simp; done) | (congr 1), rfl, rfl, Nat.le_refl _, by omega, HIL, HBX⟩
    case round =>
      clear HIL HBX w1 w2 w3 w4 w5 w6 hc3' hc2'
      obtain ⟨P', o', j, hj, rfl, rfl, hPl, ho1, ho2, hL, hX⟩ := hrel
      by_cases hlt : j < n
      case neg =>
        obtain rfl : j = n := by omega
        have hjn : ¬ ((j : Int) < (j : Int)) := by omega
        have HNX : Hid (LS w wr (limS l) u7 P' A2 0 F3 ∧ OutC l b A2.length A2 P' o') := ⟨hL.out.1, by rw [hA2]; exact hL.out.2.leave⟩
        have w7 : IntKind.u64.wrap ((A'.length : Int) + 1) = ((A'.length + 1 : Nat) : Int) := by rw [IntKind.wrap_u64]; omega
        clear hL hX
        go_wp2_with fail
        exact ⟨⟨A2, P', o', F3, rfl, by rw [hA2]; first | rfl | (simp; done), by omega, by omega, HNX⟩, by simp [intOf]; omega⟩
      have hE := relement_any wr b o' kd (by omega) (by omega)
      obtain ⟨f1, f2, f3, f4⟩ := elR_facts b o' kd hb
      have HST2 : Hid (InC l b A'.length kd n A2 (P' ++ [(A'.length + 1, j, (elR b o' kd).1)]) (o' + (elR b o' kd).2) (j + 1)) := hL.out.2.step hlt
      generalize elR b o' kd = E at hE f1 f2 f3 f4 HST2
      obtain ⟨⟨ek, en, es⟩, sz⟩ := E
      simp only at f1 f2 f3 f4 hE HST2
      subst f1
      rw [show (vc (ek, en, es)).toArray = #[.int .i64 ek, .int .i64 en, .string es] from rfl] at hE
      have hdc : dc (A'.length + 1, j, (ek, en, es)) = [.int .i64 ((A'.length : Int) + 1), .int .i64 (j : Int), .int .i64 ek, .int .i64 en, .string es] := by simp [dc]
      have HAP : Hid (∀ wV, Below wr.heap.size wr wV → ∃ v' w', (Builtin.append_ #[66, 66] 66 #[u7, .slice (some ⟨wV.heap.size, 0, none⟩) 1 1]).run Tryd.prog (wV.alloc (.cells #[.int .i64 ((A'.length : Int) + 1), .int .i64 (j : Int), .int .i64 ek, .int .i64 en, .string es] 106)) = .ok v' w' ∧ Hid (LS w w' (limS l) v' (P' ++ [(A'.length + 1, j, (ek, en, es))]) A2 0 F3) ∧ Hid (Box3 w' rb 4 ((A'.length : Int) + 1) e0 ∧ ∀ g, v'.ownBlock = some g → g ≠ rb)) := fun wV hbV => by
        have hLV := hL.out.1.next hbV
        have bV := hX.out.1.below hbV (block_lt_of_cell hX.out.1.1.1.1)
        have hrV : rb < wV.heap.size := block_lt_of_cell bV.1.1.1
        obtain ⟨v', w', e1, e2, e3, e4⟩ := app_at (P := Tryd.prog) (w := wV.alloc (.cells #[.int .i64 ((A'.length : Int) + 1), .int .i64 (j : Int), .int .i64 ek, .int .i64 en, .string es] 106)) (base := 0) 66 66 _ 48 Tryd.underlying66 info106 (by rfl) (by decide) u7 P'.length (P'.flatMap dc) (hLV.row.alloc _) wV.heap.size [.int .i64 ((A'.length : Int) + 1), .int .i64 (j : Int), .int .i64 ek, .int .i64 en, .string es] rfl (fun u hu => by
            simp only [List.mem_cons, List.not_mem_nil, or_false] at hu
            rcases hu with rfl | rfl | rfl | rfl | rfl <;> rfl) (fun k u hk => by
            have e := World.alloc_heap_new wV (.cells #[.int .i64 ((A'.length : Int) + 1), .int .i64 (j : Int), .int .i64 ek, .int .i64 en, .string es] 106)
            rw [Nat.zero_add]
            simp only [World.cell?, e]
            simpa using hk) (by unfold maxLen; omega) (by omega) (Nat.zero_le _)
        rw [← hdc] at e2
        refine ⟨v', w', e1, hLV.app _ (A'.length + 1, j, (ek, en, es)) ⟨f2, f3⟩ e2 e3 e4, ?_, fun g hg => ?_⟩
        · have k : Kp (fun x => u7.ownBlock = some x) wV w' := ((Kp.refl _ wV).alloc _).grown e3 (fun x e => .inl e)
          exact bV.same (k.block rb hrV (fun e => hX.out.2 rb e rfl))
        · rcases e4 with r | r
          · exact hX.out.2 g (r ▸ hg)
          · rw [r] at hg
            cases hg
            simp
            omega
      have HBE : Hid (∀ wS, Below wr.heap.size wr wS → Box3 wS rb 4 ((A'.length : Int) + 1) e0) := fun wS hS => hX.out.1.below hS (block_lt_of_cell hX.out.1.1.1.1)
      have j1 : (j : Int) < (n : Int) := by omega
      have w7 : IntKind.u64.wrap ((j : Int) + 1) = ((j + 1 : Nat) : Int) := by rw [IntKind.wrap_u64]; omega
      have w8 : IntKind.i64.wrap (j : Int) = (j : Int) := by rw [IntKind.wrap_i64]; omega
      have w9 : IntKind.i64.wrap ((o' : Int) + (sz : Int)) = ((o' + sz : Nat) : Int) := by rw [IntKind.wrap_i64]; omega
      clear hL hX hdc
      go_wp2_with fail
      refine hE.mono ?_
      rintro e wS ⟨rfl, hbS⟩
      have nb := (Below.refl _ wS).alloc (Nat.le_refl _) (.cells #[.int .i64 ek, .int .i64 en, .string es] 37)
      have hbV := below2 hbS nb
      obtain ⟨⟨⟨p0, g0⟩, ⟨p1, g1⟩⟩, p2, g2⟩ := Box3.new wS ek en es 37
      obtain ⟨v', w', hrun, how', hbw'⟩ := HAP.out _ hbV
      obtain ⟨⟨⟨x0, -⟩, ⟨x1, -⟩⟩, x2, -⟩ := HBE.out _ hbV
      clear HAP HBE hE hbS nb hbV
      rw [World.size_alloc] at hrun
      go_wp2_with (first
          | (at_builtin; refine wpList_apr rfl (.tmp 79) (.tmp 86) 66 rfl hrun ?_)
          | go_in)
      exact ⟨⟨P' ++ [(A'.length + 1, j, (ek, en, es))], o' + sz, j + 1, by omega, by first | rfl | (simp; done), by first | rfl | (simp; done), by rw [List.length_append, hPl]; simp; omega, by omega, by rw [List.length_append]; simp; omega, ⟨how'.out, HST2.out⟩, hbw'⟩, by simp [intOf]; omega⟩
end Go.Proofs.YtdcioemjmmhbhaaDoor
