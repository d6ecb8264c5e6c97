import Derived.BigQuiet
import Derived.Lib.QuietBelow
import Derived.Test.YtahdkffijlfmnaaGreatDoorF17
import Derived.Test.YtahdkffijlfmnaaGreatDoorF11
import Derived.Test.YtahdkffijlfmnaaGreatDoorF14
namespace Go.Proofs.YtahdkffijlfmnaaGreatDoor
open Go.RowKit
open Hp (V vc vcs)

theorem cutLo (a : Option Addr) (n cap k : Nat) (hk : k ≤ n) : ∀ w : World, (Instr.slice 64 (.slice a n cap) (some (.int .i64 (k : Int))) none none).run Tryz.prog w = .ok (.slice (if cap = k then a else a.map (·.add (k * 3))) (n - k) (cap - k)) w := fun w => by
  have h0 : (0 : Int) ≤ (k : Int) := by omega
  have h1 : (k : Int) ≤ (n : Int) := by omega
  by_cases e : cap = k
  · simp [go_sem, Tryz.underlying64, h0, h1, e]
  · simp [go_sem, Tryz.underlying64, h0, h1, e]
theorem cutHi (a : Option Addr) (n cap k : Nat) (hk : k ≤ cap) : ∀ w : World, (Instr.slice 64 (.slice a n cap) none (some (.int .i64 (k : Int))) none).run Tryz.prog w = .ok (.slice a k cap) w := fun w => by
  have h0 : (0 : Int) ≤ (k : Int) := by omega
  have h1 : (k : Int) ≤ (cap : Int) := by omega
  simp [go_sem, Tryz.underlying64, h0, h1]
set_option maxRecDepth 100000 in
set_option maxHeartbeats 2000000 in
theorem popAll_yes {w : World} {fb fo n cap : Nat} {q : Option Addr} (hc : w.cell? ⟨fb, fo + 3, none⟩ = some (.slice q n cap)) (hf : w.frozen? ⟨fb, fo + 3, none⟩ = false) (hn : n ≤ 400) (hcap : n ≤ cap) (c : Nat) (hcn : c ≤ n) :
    Calls Tryz.prog 113 #[.pointer (some ⟨fb, fo, none⟩), .int .i64 (c : Int)] w fun z w' => z = .returned (.tuple #[.slice (if cap = n - c then q else q.map (·.add ((n - c) * 3))) c (cap - (n - c)), .bool true]) ∧ Hid (Pu w w' fb (fo + 3) (.slice none 0 0) (.slice q (n - c) cap)) := by
  obtain ⟨l, hl⟩ : ∃ l, n - c = l := ⟨_, rfl⟩
  rw [hl]
  have hw1 : IntKind.i64.wrap ((n : Int) - (c : Int)) = (l : Int) := by rw [IntKind.wrap_i64]; omega
  have s1 := cutLo q n cap l (by omega)
  have s2 := cutHi q n cap l (by omega)
  rw [show n - l = c by omega] at s1
  generalize (if cap = l then q else q.map (·.add (l * 3))) = q' at s1 ⊢
  have i0 : ¬ ((l : Int) < 0) := by omega
  have i1 : (0 : Int) ≤ (l : Int) := by omega
  have hfl : fb < w.heap.size := block_lt_of_cell hc
  have HE : Hid (∀ w', w' = w.setCell ⟨fb, fo + 3, none⟩ (.slice q l cap) ∨ w' = (w.setCell ⟨fb, fo + 3, none⟩ (.slice q l cap)).drew → Pu w w' fb (fo + 3) (.slice none 0 0) (.slice q l cap)) := fun w' e => by
    have base : Pu w (w.setCell ⟨fb, fo + 3, none⟩ (.slice q l cap)) fb (fo + 3) (.slice none 0 0) (.slice q l cap) := ⟨rfl, (Kp.refl (fun x => x = fb ∨ (obk (Value.slice none 0 0)) = some x) w).setCell (p := ⟨fb, fo + 3, none⟩) (.inl (.inl rfl)) _⟩
    rcases e with rfl | rfl
    · exact base
    · exact base.next hfl (Below.refl _ _).drew
  clear hl hcap hcn hfl
  go_enter Tryz.func113, Tryz.ntmps113
  go_wp2
  go_ret2
  exact ⟨rfl, HE.out _ (.inl rfl)⟩
set_option maxRecDepth 100000 in
set_option maxHeartbeats 2000000 in
theorem popAll_no {w : World} {fb fo n cap : Nat} {q : Option Addr} (hc : w.cell? ⟨fb, fo + 3, none⟩ = some (.slice q n cap)) (hn : n ≤ 400) (c : Nat) (hcn : n < c) (hcm : c ≤ 1000000) :
    Calls Tryz.prog 113 #[.pointer (some ⟨fb, fo, none⟩), .int .i64 (c : Int)] w fun z w' => z = .returned (.tuple #[.slice none 0 0, .bool false]) ∧ Below w.heap.size w w' := by
  have hw1 : IntKind.i64.wrap ((n : Int) - (c : Int)) = (n : Int) - (c : Int) := by rw [IntKind.wrap_i64]; omega
  have i0 : ((n : Int) - (c : Int) < 0) := by omega
  clear hcn hcm hn
  go_enter Tryz.func113, Tryz.ntmps113
  go_wp2
  go_ret2
  exact ⟨rfl, Below.refl _ _⟩
/-- popAll, at the top frame. -/
theorem Now.popAll {w0 w : World} {g : Nat} {K : Cg} {S : Ms} {L0 : List Fm} {ov : Value} {F Q : Nat → Prop} {gf cap n : Nat} {m : Fm} (h : Now w0 w g K L0 ov F Q gf cap n S m) (c l : Nat) (hc : l + c = m.f.st.length) :
    Calls Tryz.prog 113 #[.pointer (some ⟨gf, n * 4, none⟩), .int .i64 (c : Int)] w fun z w' => ∃ q' cp, z = .returned (.tuple #[.slice q' c cp, .bool true]) ∧ Hid ((0 < c → ∃ gs o, q' = some ⟨gs, o, none⟩ ∧ w'.rangeAt gs o (vcs (m.f.st.drop l)) ∧ Blk w' gs 52 0) ∧ ∃ tv', Now w0 w' g K L0 ov F Q gf cap n (S.cut n m.f (m.f.st.take l)) (m.st' tv' (m.f.st.take l))) := by
  have hfc := h.fc
  obtain ⟨L, hT, k⟩ := h
  have hm : m ∈ L := List.mem_of_getElem? hT.hm
  have hrow := (hT.h.rows m hm).2
  obtain ⟨q, cp, etv, hcp, hq⟩ := rown_slice hrow
  have c3 := hfc.2.2.2.1
  rw [etv] at c3
  refine (popAll_yes c3 (hfc.2.2.2.2 _) hT.hs hcp c (by omega)).mono fun z w' r => ?_
  obtain ⟨r1, r2⟩ := r
  have hpu := r2.out
  rw [show m.f.st.length - c = l by omega] at r1 hpu
  refine ⟨_, _, r1, ?_⟩
  have hlen : (m.f.st.take l).length = l := by rw [List.length_take]; omega
  have hh := hT.h
  rw [← hT.hn] at hh
  rcases Nat.eq_zero_or_pos m.f.st.length with h0 | h0
  · have hl0 : l = 0 := by omega
    have hc0 : c = 0 := by omega
    subst hl0 hc0
    have est : m.f.st = [] := List.eq_nil_of_length_eq_zero h0
    have hrow2 := hrow
    rw [etv] at hrow2
    have hkeep : ∀ b, (obk (Value.slice q m.f.st.length cp)) = some b → w'.heap[b]? = w.heap[b]? := fun b hb => hpu.kp.block b (rown_blk hrow2 b hb).lt fun e => by
      rcases e with e | e
      · exact rown_ne hrow2 (hT.h.fblk (by have := hT.hn; omega)) (by decide) (by rw [← e]; exact hb)
      · cases e
    have ht' : OwnR w' 52 3 (.slice q 0 cp) (m.f.st.take 0).length (vcs (m.f.st.take 0)) := by
      have := rown_same hrow2 hkeep
      rw [est] at this ⊢
      exact this
    have hob : ∀ b, (obk (Value.slice q 0 cp)) = some b → (obk m.tv) = some b := fun b hb => by rw [etv, h0]; exact hb
    obtain ⟨k1, k2, k3⟩ := hh.stack hT.hm hpu (fun b hb => by cases hb) ht' (fun b hb => .inl (hob b hb))
    rw [hT.hn] at k1 k2 k3
    exact ⟨fun q => absurd q (by omega), .slice q 0 cp, L.set n (m.st' (.slice q 0 cp) (m.f.st.take 0)), ⟨k1, by rw [List.length_set]; exact hT.hn, by rw [List.getElem?_set_self (by have := hT.hn; omega)], hT.hb, by show (m.f.st.take 0).length ≤ 400; simp⟩, k.trans ⟨k1, k2, k3, TopT.pu (hT.h.fblk (by have := hT.hn; omega)) hpu rfl⟩⟩
  · obtain ⟨gs, rfl, hrg⟩ := hq h0
    rw [etv] at hrow
    have ht := own_take hrow (k := l) (by omega)
    have hne : gs ≠ gf := fun q => rown_ne hrow (hT.h.fblk (by have := hT.hn; omega)) (by decide) (by rw [q]; exact obk_pos (by omega))
    have hgl : gs < w.heap.size := (rown_blk hrow gs (obk_pos (by omega))).lt
    have hkeep : w'.heap[gs]? = w.heap[gs]? := hpu.kp.block gs hgl fun q => by
      rcases q with q | q
      · exact hne q
      · cases q
    have ht' : OwnR w' 52 3 (.slice (some ⟨gs, 0, none⟩) l cp) (m.f.st.take l).length (vcs (m.f.st.take l)) := by
      rw [hlen]
      exact rown_same ht fun b hb => by have hb := obk_own hb; cases hb; exact hkeep
    obtain ⟨k1, k2, k3⟩ := hh.stack hT.hm hpu (fun b hb => by cases hb) ht' (fun b hb => .inl (by rw [etv]; exact hb))
    rw [hT.hn] at k1 k2 k3
    refine ⟨fun hc0 => ⟨gs, l * 3, ?_, fun j v hv => ?_, ((rown_blk hrow gs (obk_pos (by omega))).same hkeep).le (Nat.zero_le _)⟩, .slice (some ⟨gs, 0, none⟩) l cp, L.set n (m.st' (.slice (some ⟨gs, 0, none⟩) l cp) (m.f.st.take l)), ⟨k1, by rw [List.length_set]; exact hT.hn, by rw [List.getElem?_set_self (by have := hT.hn; omega)], hT.hb, ?_⟩, k.trans ⟨k1, k2, k3, TopT.pu (hT.h.fblk (by have := hT.hn; omega)) hpu rfl⟩⟩
    · rw [if_neg (by omega)]
      simp [Addr.add]
      intro h
      omega
    · have e1 : vcs m.f.st = vcs (m.f.st.take l) ++ vcs (m.f.st.drop l) := by rw [← Hp.vcs_app, List.take_append_drop]
      have := hrg (l * 3 + j) v (by rw [e1, List.getElem?_append_right (by rw [Hp.vcs_len, hlen]; omega), Hp.vcs_len, hlen, show l * 3 + j - l * 3 = j by omega]; exact hv)
      rw [Nat.zero_add] at this
      exact (World.cell?_of_block (w := w) (a := ⟨gs, l * 3 + j, none⟩) hkeep).trans this
    · have := hT.hs
      show (m.f.st.take l).length ≤ 400
      omega
end Go.Proofs.YtahdkffijlfmnaaGreatDoor

namespace Go.Proofs.YtahdkffijlfmnaaGreatDoor
open Go.RowKit
open Hp (V vc vcs)

/-- Do values fit the sorts in whose places they stand? -/
def fitL (A : Hp.Hp) (vs : List V) (so : List Int) (i : Nat) : Bool := (vs.drop i).zip (so.drop i) |>.all fun p => fitV A p.1 p.2
theorem fitL_step (A : Hp.Hp) (vs : List V) (so : List Int) (i : Nat) (h1 : i < vs.length) (h2 : i < so.length) : fitL A vs so i = (fitV A vs[i] so[i] && fitL A vs so (i + 1)) := by
  unfold fitL
  rw [List.drop_eq_getElem_cons h1, List.drop_eq_getElem_cons h2, List.zip_cons_cons, List.all_cons]
theorem fitL_end (A : Hp.Hp) (vs : List V) (so : List Int) : fitL A vs so vs.length = true := by
  unfold fitL
  rw [List.drop_length, List.zip_nil_left]
  rfl
set_option maxRecDepth 100000 in
set_option maxHeartbeats 4000000 in
theorem fitAll_any {w : World} {g : Nat} {A : Hp.Hp} {vs : List V} {so : List Int} {q q2 : Option Addr} {cp cp2 : Nat} (hl : vs.length ≤ so.length) (hn : so.length ≤ 1000000)
    (hq : ∀ i (_ : i < vs.length), ∃ b o, q = some ⟨b, o, none⟩ ∧ w.cell? ⟨b, o + i * 3, none⟩ = some (.int .i64 vs[i].1) ∧ w.cell? ⟨b, o + i * 3 + 1, none⟩ = some (.int .i64 vs[i].2.1) ∧ w.cell? ⟨b, o + i * 3 + 2, none⟩ = some (.string vs[i].2.2))
    (hq2 : ∀ i (_ : i < so.length), ∃ b o, q2 = some ⟨b, o, none⟩ ∧ w.cell? ⟨b, o + i, none⟩ = some (.int .i64 so[i]))
    (hfit : ∀ w', Below w.heap.size w w' → ∀ v ∈ vs, ∀ s, Calls Tryz.prog 102 #[.pointer (some ⟨g, 0, none⟩), .agg #[.int .i64 v.1, .int .i64 v.2.1, .string v.2.2], .int .i64 s] w' fun z w'' => z = .returned (.bool (fitV A v s)) ∧ Below w'.heap.size w' w'') :
    Calls Tryz.prog 65 #[.pointer (some ⟨g, 0, none⟩), .slice q vs.length cp, .slice q2 so.length cp2] w fun z w' => z = .returned (.bool (fitL A vs so 0)) ∧ Below w.heap.size w w' := by
  obtain ⟨R, hR⟩ : ∃ R, fitL A vs so 0 = R := ⟨_, rfl⟩
  rw [hR]
  have HR : Hid (fitL A vs so 0 = R) := hR
  have HQ : Hid _ := hq
  have HQ2 : Hid _ := hq2
  have HFI : Hid _ := hfit
  clear hq hq2 hfit hR
  obtain ⟨N, hN⟩ : ∃ N, vs.length = N := ⟨_, rfl⟩
  obtain ⟨M, hM⟩ : ∃ M, so.length = M := ⟨_, rfl⟩
  rw [hN, hM]
  go_enter Tryz.func65, Tryz.ntmps65
  go_wp2_with fail
  have HL : Hid (vs.length = N ∧ so.length = M) := ⟨hN, hM⟩
  rw [hN, hM] at hl
  rw [hM] at hn
  clear hN hM
  go_loopw [11] (fun v wv => ∃ i : Nat, i ≤ N ∧ v = .int .i64 (i : Int) ∧ Hid (Below w.heap.size w wv ∧ fitL A vs so i = R)) (fun v _ => N - (intOf v).toNat)
  case atStart => exact ⟨0, Nat.zero_le _, rfl, Below.refl _ _, HR.out⟩
  case round =>
    obtain ⟨i, hi, rfl, hI⟩ := hrel
    by_cases hlt : i < N
    case neg =>
      obtain rfl : i = N := by omega
      have HE : Hid (R = true) := by show R = true; rw [← hI.out.2, ← HL.out.1]; exact fitL_end A vs so
      go_wp2
      go_ret
      exact ⟨by rw [HE.out]; rfl, hI.out.1⟩
    have i0 : (0 : Int) ≤ (i : Int) := Int.natCast_nonneg _
    have i1 : (i : Int) < (N : Int) := Int.ofNat_lt.2 hlt
    have i2 : (i : Int) < (M : Int) := by omega
    have hw : IntKind.i64.wrap ((i : Int) + 1) = ((i + 1 : Nat) : Int) := by rw [IntKind.wrap_i64]; omega
    have hv : i < vs.length := by rw [HL.out.1]; exact hlt
    have hs : i < so.length := by rw [HL.out.2]; omega
    obtain ⟨b, o, eq1, a0, a1, a2⟩ := HQ.out i hv
    obtain ⟨b2, o2, eq2, a3⟩ := HQ2.out i hs
    have HST : Hid ((fitV A vs[i] so[i] && fitL A vs so (i + 1)) = R) := by show _ = R; rw [← fitL_step A vs so i hv hs]; exact hI.out.2
    have hmem : vs[i] ∈ vs := List.getElem_mem hv
    generalize vs[i] = v at a0 a1 a2 HST hmem
    generalize so[i] = sr at a3 HST
    obtain ⟨k, j, s⟩ := v
    have HM2 : Hid ((k, j, s) ∈ vs) := hmem
    clear hmem hv hs
    subst eq1 eq2
    have kk := fun {p : Addr} {u : Value} (q : w.cell? p = some u) => (hI.out.1.cell (p := p) (block_lt_of_cell q)).trans q
    have c0 := kk a0
    have c1 := kk a1
    have c2 := kk a2
    have c3 := kk a3
    clear kk a0 a1 a2 a3
    go_wp2_with fail
    have f1 := Full.new wr #[.int .i64 k, .int .i64 j, .string s] 52
    have bX : Below wr.heap.size wr (wr.alloc (.cells #[.int .i64 k, .int .i64 j, .string s] 52)) := (Below.refl _ _).alloc (Nat.le_refl _) _
    have e3 := (bX.cell (p := ⟨b2, o2 + i, none⟩) (block_lt_of_cell c3)).trans c3
    generalize wr.alloc (.cells #[.int .i64 k, .int .i64 j, .string s] 52) = X at f1 bX e3 ⊢
    have x0 := cell_regrown (f1.cell 0 _ rfl).1
    have x1 := cell_regrown (f1.cell 1 _ rfl).1
    have x2 := cell_regrown (f1.cell 2 _ rfl).1
    have x3 := cell_regrown e3
    have hBX : Below w.heap.size w X := below2 hI.out.1 bX
    have d1 : ∀ d os, Calls Tryz.prog 102 #[.pointer (some ⟨g, 0, none⟩), .agg #[.int .i64 k, .int .i64 j, .string s], .int .i64 sr] (Sort.grow (redrawn X d) os) fun z w'' => z = .returned (.bool (fitV A (k, j, s) sr)) ∧ ∃ z : Regrown, w'' = Sort.grow (redrawn X z.d) z.os := fun d os => Calls.regrown_of (HFI.out _ (below2 hBX (below_regrown X d os)) (k, j, s) HM2.out sr)
    clear f1 c0 c1 c2 c3 e3 bX
    cases hfv : fitV A (k, j, s) sr with
    | false =>
      rw [hfv] at d1 HST
      refine wp_region_quiet_below (by kernel_rfl) (by kernel_rfl) ?_
      repeat (first | go_big_quiet_step (first | with_reducible exact d1 _ _) | quiet_step (first | with_reducible exact d1 _ _))
      refine wpQuiet_nil ?_
      intro _ hw'
      obtain ⟨⟨dq, osq⟩, hw''⟩ := hw'
      subst hw''
      have hY := below_regrown X dq osq
      first | (change Exit.then _ _ Exit.normal _ (Sort.grow (redrawn X dq) osq)) | skip
      generalize Sort.grow (redrawn X dq) osq = Y at hY ⊢
      clear d1
      clear x0 x1 x2 x3
      have HB : Hid (Below w.heap.size w Y) := below2 hBX hY
      have HE : Hid (R = false) := HST.out.symm
      clear hBX hY hfv
      go_wp2
      go_ret
      exact ⟨by rw [HE.out]; rfl, HB.out⟩
    | true =>
      rw [hfv] at d1 HST
      refine wp_region_quiet_below (by kernel_rfl) (by kernel_rfl) ?_
      repeat (first | go_big_quiet_step (first | with_reducible exact d1 _ _) | quiet_step (first | with_reducible exact d1 _ _))
      refine wpQuiet_nil ?_
      intro _ hw'
      obtain ⟨⟨dq, osq⟩, hw''⟩ := hw'
      subst hw''
      have hY := below_regrown X dq osq
      first | (change Exit.then _ _ Exit.normal _ (Sort.grow (redrawn X dq) osq)) | skip
      generalize Sort.grow (redrawn X dq) osq = Y at hY ⊢
      clear d1
      clear x0 x1 x2 x3
      have HB : Hid (Below w.heap.size w Y) := below2 hBX hY
      clear hBX hY hfv
      go_wp2
      exact ⟨⟨i + 1, by omega, by first | rfl | (push_cast; rfl) | go_num, HB.out, HST.out⟩, by simp [intOf]; omega⟩
end Go.Proofs.YtahdkffijlfmnaaGreatDoor

namespace Go.Proofs.YtahdkffijlfmnaaGreatDoor.Hp
open Go.RowKit

/-- An element of a list of its own is written. -/
theorem own_setV {w : World} {B g n cap : Nat} {l : List V} (hl : l.length = n) (h : w.ownsRow B 52 3 (.slice (some ⟨g, 0, none⟩) n cap) n (vcs l)) (N : Nat) (hN : N < n) (x : V) : (w.setCells g (N * 3) (vc x)).ownsRow B 52 3 (.slice (some ⟨g, 0, none⟩) n cap) n (vcs (l.set N x)) := by
  have hbk := own_blk h g rfl
  refine own_sets h _ _ _ (by rw [vcs_len, List.length_set, hl]) fun i hi => ?_
  have hfs := flat_set vc 3 (fun _ => rfl) l N (by omega) x i
  unfold vcs
  rw [hfs]
  split
  · rename_i hu
    obtain ⟨y, hy⟩ : ∃ y, (vc x)[i - N * 3]? = some y := ⟨_, List.getElem?_eq_getElem (show i - N * 3 < 3 by omega)⟩
    have := World.rangeAt_setCells_same w g (N * 3) (vc x) (hbk.there _ _ (by show _ + 3 ≤ _; omega)) (i - N * 3) y hy
    rw [show N * 3 + (i - N * 3) = i by omega] at this
    rw [this, hy]
  · rename_i hu
    rw [World.cell?_setCells_out _ _ _ _ _ (fun _ _ => by show i < N * 3 ∨ N * 3 + 3 ≤ i; omega)]
    have hc := h.cellAt (g := g) i hi
    exact hc

theorem Ans.put {w : World} {b : Nat} {Ls : List (List V)} {v : Value} {vs : List Value} (h : Ans w b Ls v vs) (i j g : Nat) (hi : i < Ls.length) (hj : j < Ls[i].length) (hv : vs[i]? = some (.slice (some ⟨g, 0, none⟩) Ls[i].length Ls[i].length)) (x : V) : Ans (w.setCells g (j * 3) (vc x)) b (Ls.set i (Ls[i].set j x)) v vs := by
  obtain ⟨q, h1, hel⟩ := h.own i hi
  rw [hv] at h1
  cases h1
  have hbk := own_blk hel g rfl
  have hs : ∀ k, k ≠ g → (w.setCells g (j * 3) (vc x)).heap[k]? = w.heap[k]? := fun k hk => sets_heap hk _ _ _
  refine ⟨by rw [List.length_set]; exact h.len, by rw [List.length_set]; exact own_same h.out fun k hk => hs k ((own_blk h.out k hk).ne hbk (by decide)), fun k hk => ?_, h.sep⟩
  have hk' : k < Ls.length := by rw [List.length_set] at hk; exact hk
  by_cases e : k = i
  · subst e
    rw [List.getElem_set_self]
    simp only [List.length_set]
    exact ⟨_, hv, own_setV rfl hel j hj x⟩
  · rw [List.getElem_set_ne (Ne.symm e)]
    obtain ⟨q', h1', h2'⟩ := h.own k hk'
    refine ⟨q', h1', own_same h2' fun k' hk2 => hs k' (fun e2 => ?_)⟩
    subst e2
    have hk3 : k < vs.length := by rw [h.len]; exact hk'
    have hi3 : i < vs.length := by rw [h.len]; exact hi
    have e1 : vs[k] = .slice q' Ls[k].length Ls[k].length := by rw [List.getElem?_eq_getElem hk3] at h1'; exact Option.some.inj h1'
    have e3 : vs[i] = .slice (some ⟨k', 0, none⟩) Ls[i].length Ls[i].length := by rw [List.getElem?_eq_getElem hi3] at hv; exact Option.some.inj hv
    have hp := List.pairwise_iff_getElem.1 h.sep
    rcases Nat.lt_or_gt_of_ne e with q | q
    · have := hp k i hk3 hi3 q
      rw [e1, e3] at this
      exact this k' hk2 rfl
    · have := hp i k hi3 hk3 q
      rw [e1, e3] at this
      exact this k' rfl hk2

/-- The marks of the first n places of the list k. -/
def mks (k n : Nat) : List V := (List.range n).map fun j => sgV k j
theorem mks_len (k n : Nat) : (mks k n).length = n := by simp [mks]
theorem mks_succ (k n : Nat) : mks k (n + 1) = mks k n ++ [sgV k n] := by simp [mks, List.range_succ]
theorem mks_at (k n j : Nat) (h : j < (mks k n).length) : (mks k n)[j] = sgV k j := by simp [mks]

/-- The lists up to i are marked, the next one up to j. -/
def Mkd (Ls C : List (List V)) (i j : Nat) : Prop := C.map List.length = Ls.map List.length ∧ ∀ k l (hk : k < C.length) (hl : l < C[k].length), (k < i ∨ (k = i ∧ l < j)) → C[k][l] = sgV k l
theorem Mkd.len {Ls C : List (List V)} {i j : Nat} (h : Mkd Ls C i j) : C.length = Ls.length := by have := congrArg List.length h.1; simpa using this
theorem Mkd.lenAt {Ls C : List (List V)} {i j : Nat} (h : Mkd Ls C i j) (k : Nat) (hk : k < Ls.length) : (C[k]'(by rw [h.len]; exact hk)).length = Ls[k].length := by
  have hk' : k < C.length := by rw [h.len]; exact hk
  have e : (C.map List.length)[k]? = (Ls.map List.length)[k]? := by rw [h.1]
  rw [List.getElem?_map, List.getElem?_map, List.getElem?_eq_getElem hk, List.getElem?_eq_getElem hk'] at e
  simpa using e
theorem Mkd.start (Ls : List (List V)) : Mkd Ls Ls 0 0 := ⟨rfl, fun k l hk hl h => by omega⟩
theorem Mkd.step {Ls C : List (List V)} {i j : Nat} (h : Mkd Ls C i j) (hi : i < C.length) : Mkd Ls (C.set i (C[i].set j (sgV i j))) i (j + 1) := by
  refine ⟨?_, fun k l hk hl hh => ?_⟩
  · rw [← h.1, List.map_set, List.length_set]
    apply List.ext_getElem?
    intro k
    rw [List.getElem?_set]
    split
    · rename_i e
      subst e
      rw [if_pos (by rw [List.length_map]; exact hi), List.getElem?_map, List.getElem?_eq_getElem hi]
      rfl
    · rfl
  · have hk' : k < C.length := by rw [List.length_set] at hk; exact hk
    by_cases e : i = k
    · subst e
      simp only [List.getElem_set_self] at hl ⊢
      rw [List.length_set] at hl
      rw [List.getElem_set]
      split
      · rename_i e2
        rw [e2]
      · exact h.2 i l hk' hl (by omega)
    · simp only [List.getElem_set_ne e] at hl ⊢
      exact h.2 k l hk' hl (by omega)
theorem Mkd.next {Ls C : List (List V)} {i j : Nat} (h : Mkd Ls C i j) (hj : ∀ hi : i < C.length, C[i].length ≤ j) : Mkd Ls C (i + 1) 0 := ⟨h.1, fun k l hk hl hh => h.2 k l hk hl (by
  by_cases e : k = i
  · subst e
    have := hj hk
    omega
  · omega)⟩
theorem Mkd.all {Ls C : List (List V)} (h : Mkd Ls C Ls.length 0) (k : Nat) (hk : k < C.length) : C[k] = mks k C[k].length := by
  apply List.ext_getElem
  · rw [mks_len]
  · intro l hl hl2
    rw [mks_at]
    exact h.2 k l hk hl (.inl (by rw [← h.len]; exact hk))

/-- The blocks of the lists. -/
def bkL (vs : List Value) (g : Nat) : Prop := ∃ (k : Nat) (x : Value), vs[k]? = some x ∧ x.ownBlock = some g
/-- The lists that were lengthened. -/
def Lng (w : World) (b : Nat) (ns : List Nat) (us : List Value) : Prop := ∀ (k : Nat) (u : Value) (n : Nat), us[k]? = some u → ns[k]? = some n → w.ownsRow b 52 3 u (n + 70) (vcs (mks k (n + 70)))
theorem Lng.next {w w' : World} {b : Nat} {ns : List Nat} {us : List Value} (h : Lng w b ns us) (hb : Below w.heap.size w w') : Lng w' b ns us := fun k u n h1 h2 => own_next (h k u n h1 h2) hb
theorem Lng.push {w w' : World} {b c : Nat} {ns : List Nat} {us : List Value} {u v : Value} {n : Nat} (h : Lng w b ns us) (hc : us.length = c) (hn : ns[c]? = some n) (hu : w.ownsRow b 52 3 u (n + 70) (vcs (mks c (n + 70)))) (ho : w.ownsRow b 64 1 v c us) (hg : w.grownBy w' v.ownBlock) : Lng w' b ns (us ++ [u]) := by
  have hkeep : ∀ {x : Value} {n : Nat} {xs : List Value}, w.ownsRow b 52 3 x n xs → w'.ownsRow b 52 3 x n xs := fun {x n xs} hx => own_same hx fun g hg' => hg.block g (hx.lt g hg').2 (fun e => own_ne ho (own_blk hx g hg') (by decide) e.symm)
  intro k x m h1 h2
  by_cases hk : k < us.length
  · rw [List.getElem?_append_left hk] at h1
    exact hkeep (h k x m h1 h2)
  · rw [List.getElem?_append_right (by omega)] at h1
    have hk2 : k - us.length = 0 := by
      have := (List.getElem?_eq_some_iff.1 h1).1
      simp at this
      omega
    rw [hk2] at h1
    simp only [List.getElem?_cons_zero, Option.some.injEq] at h1
    subst h1
    have : k = c := by omega
    subst this
    rw [hn] at h2
    cases h2
    exact hkeep hu
theorem Ans.at {w : World} {b O cap : Nat} {Ls C : List (List V)} {vs : List Value} {i j : Nat} (h : Ans w b C (.slice (some ⟨O, 0, none⟩) Ls.length cap) vs) (hM : Mkd Ls C i j) (k : Nat) (hk : k < Ls.length) : ∃ q, vs[k]? = some (.slice q Ls[k].length Ls[k].length) ∧ w.cell? ⟨O, k, none⟩ = some (.slice q Ls[k].length Ls[k].length) ∧ (0 < Ls[k].length → ∃ g, q = some ⟨g, 0, none⟩) ∧ w.ownsRow b 52 3 (.slice q Ls[k].length Ls[k].length) Ls[k].length (vcs (C[k]'(by rw [hM.len]; exact hk))) := by
  have hk' : k < C.length := by rw [hM.len]; exact hk
  obtain ⟨q, h1, h2⟩ := h.own k hk'
  have e := hM.lenAt k hk
  rw [e] at h1 h2
  refine ⟨q, h1, ?_, ?_, h2⟩
  · have ho := h.out
    rw [hM.len] at ho
    exact (ho.cellAt (g := O) k (by omega)).trans h1
  · intro h0
    obtain ⟨q', cp, e1, _, hr⟩ := own_slice h2
    cases e1
    obtain ⟨g, rfl, _⟩ := hr h0
    exact ⟨g, rfl⟩
theorem vc_one (x : V) : ∀ u ∈ vc x, u.oneCell' = true := fun u hu => vcs_one (l := [x]) u (by simpa [vcs] using hu)
end Go.Proofs.YtahdkffijlfmnaaGreatDoor.Hp

namespace Go.Proofs.YtahdkffijlfmnaaGreatDoor.Hp
open Go.RowKit

theorem range_next {w w' : World} {g o : Nat} {xs : List Value} (h : w.rangeAt g o xs) (hb : Below w.heap.size w w') : w'.rangeAt g o xs := fun j v hv => (hb.cell (p := ⟨g, o + j, none⟩) (block_lt_of_cell (h j v hv))).trans (h j v hv)
theorem callS (a b : Value) (w : World) : (callFunc 40 #[a, b]).run Tryz.prog w = .ok (.enter 40 #[a, b]) w := by kernel_rfl

theorem there3 {W : World} {g o : Nat} (h : W.there g o 3) : ∃ x0 x1 x2, W.cell? ⟨g, o, none⟩ = some x0 ∧ W.cell? ⟨g, o + 1, none⟩ = some x1 ∧ W.cell? ⟨g, o + 2, none⟩ = some x2 ∧ W.frozen? ⟨g, o, none⟩ = false ∧ W.frozen? ⟨g, o + 1, none⟩ = false ∧ W.frozen? ⟨g, o + 2, none⟩ = false := by
  have h0 := h 0 (by decide)
  have h1 := h 1 (by decide)
  have h2 := h 2 (by decide)
  rw [Nat.add_zero] at h0
  obtain ⟨x0, e0⟩ := Option.isSome_iff_exists.1 h0.1
  obtain ⟨x1, e1⟩ := Option.isSome_iff_exists.1 h1.1
  obtain ⟨x2, e2⟩ := Option.isSome_iff_exists.1 h2.1
  exact ⟨x0, x1, x2, e0, e1, e2, h0.2, h1.2, h2.2⟩

set_option maxRecDepth 100000 in
set_option maxHeartbeats 4000000 in
theorem apart_any (w : World) (O cap b : Nat) (Ls : List (List V)) (vs : List Value) (h : Ans w b Ls (.slice (some ⟨O, 0, none⟩) Ls.length cap) vs) (hm : Ls.length ≤ 400000) (hn : ∀ l ∈ Ls, l.length ≤ 100000) (hbw : b ≤ w.heap.size) :
    Calls Tryz.prog 19 #[.slice (some ⟨O, 0, none⟩) Ls.length cap] w fun e w' => e = .returned (.bool true) ∧ Kp (bkL vs) w w' := by
  have H0 : Hid (Mkd Ls Ls 0 0 ∧ Ans w b Ls (.slice (some ⟨O, 0, none⟩) Ls.length cap) vs ∧ Kp (bkL vs) w w) := ⟨Mkd.start Ls, h, Kp.refl _ _⟩
  clear h
  go_enter Tryz.func19, Tryz.ntmps19
  go_wp2_with fail
  go_loopw [3] (fun s3 wr => ∃ (i : Nat) (C : List (List V)), i ≤ Ls.length ∧ s3 = .int .i64 (i : Int) ∧ Hid (Mkd Ls C i 0 ∧ Ans wr b C (.slice (some ⟨O, 0, none⟩) Ls.length cap) vs ∧ Kp (bkL vs) w wr)) (fun s3 _ => Ls.length - (intOf s3).toNat)
  case atStart => exact ⟨0, Ls, Nat.zero_le _, rfl, H0⟩
  case round =>
    clear H0
    obtain ⟨i, C, hi, rfl, hS⟩ := hrel
    by_cases hlt : i < Ls.length
    · have hlt1 : (i : Int) < (Ls.length : Int) := by omega
      have i0 : (0 : Int) ≤ (i : Int) := by omega
      obtain ⟨qi, hvi, -, hgi, -⟩ := hS.out.2.1.at hS.out.1 i hlt
      have hq := hn Ls[i] (List.getElem_mem hlt)
      obtain ⟨q, hqe⟩ : ∃ q, Ls[i].length = q := ⟨_, rfl⟩
      have HQ : Hid (Ls[i].length = q) := hqe
      have HV : Hid (vs[i]? = some (.slice qi Ls[i].length Ls[i].length)) := hvi
      rw [hqe] at hq hgi
      clear hqe hvi
      go_wp2_with fail
      go_loopw [4] (fun s4 wr => ∃ (j : Nat) (C : List (List V)), j ≤ q ∧ s4 = .int .i64 (j : Int) ∧ Hid (Mkd Ls C i j ∧ Ans wr b C (.slice (some ⟨O, 0, none⟩) Ls.length cap) vs ∧ Kp (bkL vs) w wr)) (fun s4 _ => q - (intOf s4).toNat)
      case atStart => exact ⟨0, C, Nat.zero_le _, rfl, hS⟩
      case round =>
        clear hS
        obtain ⟨j, C2, hj, rfl, hT⟩ := hrel
        obtain ⟨hM, hA, hK⟩ := hT.out
        obtain ⟨q', h1, h2, -, h4⟩ := hA.at hM i hlt
        rw [HV.out] at h1
        cases h1
        rw [HQ.out] at h2 h4
        by_cases hjq : j < q
        · obtain ⟨g, rfl⟩ := hgi (by omega)
          have hjq1 : (j : Int) < (q : Int) := by omega
          have j0 : (0 : Int) ≤ (j : Int) := by omega
          have hiC : i < C2.length := by rw [hM.len]; exact hlt
          have hCl : C2[i].length = q := (hM.lenAt i hlt).trans HQ.out
          have hbk := own_blk h4 g rfl
          have HST : Hid (∀ W, Below wr.heap.size wr W → (W.cell? ⟨O, i, none⟩ = some (.slice (some ⟨g, 0, none⟩) q q) ∧ W.there g (j * 3) 3) ∧ Hid (∃ C3, Mkd Ls C3 i (j + 1) ∧ Ans (W.setCells g (j * 3) (vc (sgV i j))) b C3 (.slice (some ⟨O, 0, none⟩) Ls.length cap) vs ∧ Kp (bkL vs) w (W.setCells g (j * 3) (vc (sgV i j))))) := fun W hW => by
            refine ⟨⟨(hW.cell (p := ⟨O, i, none⟩) (block_lt_of_cell h2)).trans h2, (hbk.next hW).there _ _ (by omega)⟩, _, hM.step hiC, (hA.next hW).put i j g hiC (by omega) (by rw [hCl, ← HQ.out]; exact HV.out) (sgV i j), ?_⟩
            exact Kp.setCells (.inl ⟨i, _, HV.out, rfl⟩) _ _ (hK.next hW)
          have HSG : Hid (∀ W, Calls Tryz.prog 40 #[.int .i64 (i : Int), .int .i64 (j : Int)] W fun e w' => ∃ v, e = .returned v ∧ (v = .agg #[.int .i64 9, .int .i64 (j : Int), .string (sgT i)] ∧ Below W.heap.size W w')) := fun W => (sign_any W i j (by omega)).mono fun e w' ⟨e1, e2⟩ => ⟨_, e1, rfl, e2⟩
          clear hM hA hK hT h4 hbk hCl hiC hgi
          go_wp2_with fail
          go_region_law (first
            | (refine step_call (by rfl) 40 [.tmp 31, .tmp 32] #[3, 3] [.int .i64 (i : Int), .int .i64 (j : Int)] (by rfl) (by rfl) (callS _ _) _ (HSG.out _) ?_; rintro v w3 ⟨rfl, hb3⟩; obtain ⟨⟨d1, TH⟩, HNX⟩ := HST.out w3 (by first | exact hb3 | exact ((Below.refl _ wr).drew).trans hb3); obtain ⟨y0, y1, y2, a0, a1, a2, f0, f1, f2⟩ := there3 TH))
          all_goals
            obtain ⟨C3, HC3⟩ : ∃ C3, Hid (Mkd Ls C3 i (j + 1) ∧ Ans (w3.setCells g (j * 3) (vc (sgV i j))) b C3 (.slice (some ⟨O, 0, none⟩) Ls.length cap) vs ∧ Kp (bkL vs) w (w3.setCells g (j * 3) (vc (sgV i j)))) := HNX.out
            clear HNX HST HSG d1 TH
            generalize hY : ((w3.setCell ⟨g, j * 3, none⟩ (.int .i64 9)).setCell ⟨g, j * 3 + 1, none⟩ (.int .i64 (j : Int))).setCell ⟨g, j * 3 + 2, none⟩ (.string (sgT i)) = Y
            have HC4 : Hid (Mkd Ls C3 i (j + 1) ∧ Ans Y b C3 (.slice (some ⟨O, 0, none⟩) Ls.length cap) vs ∧ Kp (bkL vs) w Y) := by rw [← hY]; exact HC3
            clear HC3 hY a0 a1 a2 f0 f1 f2 h2 hb3
            go_wp2
            exact ⟨⟨j + 1, C3, by omega, by go_num, HC4⟩, by simp [intOf]; omega⟩
        · obtain rfl : j = q := by omega
          have HT2 : Hid (Mkd Ls C2 (i + 1) 0 ∧ Ans wr b C2 (.slice (some ⟨O, 0, none⟩) Ls.length cap) vs ∧ Kp (bkL vs) w wr) := ⟨hM.next (fun hi' => Nat.le_of_eq ((hM.lenAt i hlt).trans HQ.out)), hA, hK⟩
          clear hM hA hK hT h4
          go_wp2
          exact ⟨⟨i + 1, C2, by omega, by go_num, HT2⟩, by simp [intOf]; omega⟩
    obtain rfl : i = Ls.length := by omega
    have HC : Hid (∀ k (hk : k < Ls.length) W, Below wr.heap.size wr W → ∃ q, vs[k]? = some (.slice q Ls[k].length Ls[k].length) ∧ W.cell? ⟨O, k, none⟩ = some (.slice q Ls[k].length Ls[k].length) ∧ (0 < Ls[k].length → ∃ g, q = some ⟨g, 0, none⟩) ∧ W.ownsRow b 52 3 (.slice q Ls[k].length Ls[k].length) Ls[k].length (vcs (mks k Ls[k].length))) := fun k hk W hW => by
      obtain ⟨q, h1, h2, h3, h4⟩ := (hS.out.2.1.next hW).at hS.out.1 k hk
      refine ⟨q, h1, h2, h3, ?_⟩
      have e := hS.out.1.all k (by rw [hS.out.1.len]; exact hk)
      rw [e, hS.out.1.lenAt k hk] at h4
      exact h4
    have HK2 : Hid (Kp (bkL vs) w wr) := hS.out.2.2
    have hbz : b ≤ wr.heap.size := Nat.le_trans hbw hS.out.2.2.size
    have hOz : O < wr.heap.size := (own_blk hS.out.2.1.out O rfl).lt
    clear hS hlt hi
    generalize wr = w2 at *
    go_wp2_with fail
    go_loopw [5, 6] (fun s5 s6 wr => ∃ (c : Nat) (us : List Value), c ≤ Ls.length ∧ us.length = c ∧ s6 = .int .i64 (c : Int) ∧ Hid (wr.ownsRow w2.heap.size 64 1 s5 c us) ∧ Hid (Lng wr w2.heap.size (Ls.map List.length) us) ∧ Hid (Below w2.heap.size w2 wr)) (fun _ s6 _ => Ls.length - (intOf s6).toNat)
    case atStart => exact ⟨0, [], Nat.zero_le _, rfl, rfl, World.ownsRow_nil _ _ _ _, fun k u n h => by simp at h, Below.refl _ _⟩
    case round =>
      obtain ⟨c, us, hc, hus, rfl, hO5, hG, hB⟩ := hrel
      have HUS : Hid (us.length = c) := hus
      clear hus
      by_cases hci : c < Ls.length
      · have hci1 : (c : Int) < (Ls.length : Int) := by omega
        have c0 : (0 : Int) ≤ (c : Int) := by omega
        obtain ⟨qc, -, ho, -, -⟩ := HC.out c hci wr hB.out
        have hq := hn Ls[c] (List.getElem_mem hci)
        have hns : (Ls.map List.length)[c]? = some Ls[c].length := by rw [List.getElem?_map, List.getElem?_eq_getElem hci]; rfl
        have HCc : Hid (∀ W, Below wr.heap.size wr W → W.cell? ⟨O, c, none⟩ = some (.slice qc Ls[c].length Ls[c].length) ∧ W.ownsRow b 52 3 (.slice qc Ls[c].length Ls[c].length) Ls[c].length (vcs (mks c Ls[c].length))) := fun W hW => by
          obtain ⟨q', -, h2, -, h4⟩ := HC.out c hci W (below2 hB.out hW)
          have h5 := (hW.cell (p := ⟨O, c, none⟩) (block_lt_of_cell ho)).trans ho
          rw [h2] at h5
          cases h5
          exact ⟨h2, h4⟩
        obtain ⟨q, hqe⟩ : ∃ q, Ls[c].length = q := ⟨_, rfl⟩
        have HNS : Hid ((Ls.map List.length)[c]? = some q) := by rw [hqe] at hns; exact hns
        rw [hqe] at ho hq HCc
        clear hqe hns
        have hzc := hB.out.size
        go_wp2_with fail
        clear ho
        generalize wr = wc at *
        go_loopw [7, 8] (fun s7 s8 wr => ∃ (t : Nat), t ≤ 70 ∧ s8 = .int .i64 (t : Int) ∧ Hid ((t = 0 ∧ s7 = .slice qc q q) ∨ (0 < t ∧ wr.ownsRow wc.heap.size 52 3 s7 (q + t) (vcs (mks c (q + t))))) ∧ Hid (Below wc.heap.size wc wr)) (fun _ s8 _ => 70 - (intOf s8).toNat)
        case atStart => exact ⟨0, by omega, rfl, .inl ⟨rfl, rfl⟩, Below.refl _ _⟩
        case round =>
          obtain ⟨t, ht, rfl, hu, hB7⟩ := hrel
          obtain ⟨ho, hown⟩ := HCc.out _ hB7.out
          by_cases h70 : t < 70
          · have h70' : (t : Int) < 70 := by omega
            have iqt : IntKind.i64.wrap ((q : Int) + (t : Int)) = (q : Int) + (t : Int) := by rw [IntKind.wrap_i64]; omega
            have hsg := sign_any wr c (q + t) (by omega)
            rw [Int.natCast_add] at hsg
            have hz7 := hB7.out.size
            have HAP : Hid (∀ wS, Below wr.heap.size wr wS → ∃ v' w', (Builtin.append_ #[64, 64] 64 #[u7, .slice (some ⟨wS.heap.size, 0, none⟩) 1 1]).run Tryz.prog (wS.alloc (.cells #[.int .i64 9, .int .i64 ((q : Int) + (t : Int)), .string (sgT c)] 52)) = .ok v' w' ∧ Hid (w'.ownsRow wc.heap.size 52 3 v' (q + (t + 1)) (vcs (mks c (q + (t + 1))))) ∧ Hid (Below wc.heap.size wc w')) := fun wS hbS => by
              have nb : Below wS.heap.size wS (wS.alloc (.cells #[.int .i64 9, .int .i64 ((q : Int) + (t : Int)), .string (sgT c)] 52)) := (Below.refl _ wS).alloc (Nat.le_refl _) _
              have hr : (wS.alloc (.cells #[.int .i64 9, .int .i64 ((q : Int) + (t : Int)), .string (sgT c)] 52)).rangeAt wS.heap.size 0 (vc (sgV c (q + t))) := fun j u hj => by
                have e := World.alloc_heap_new wS (.cells #[.int .i64 9, .int .i64 ((q : Int) + (t : Int)), .string (sgT c)] 52)
                rw [Nat.zero_add]
                simp only [World.cell?, e]
                have : vc (sgV c (q + t)) = [.int .i64 9, .int .i64 ((q : Int) + (t : Int)), .string (sgT c)] := by simp [vc, sgV]
                rw [this] at hj
                simpa using hj
              have hbA := below2 hbS nb
              have hbC : Below wc.heap.size wc (wS.alloc (.cells #[.int .i64 9, .int .i64 ((q : Int) + (t : Int)), .string (sgT c)] 52)) := below2 hB7.out hbA
              have em : vcs (mks c (q + t)) ++ vc (sgV c (q + t)) = vcs (mks c (q + (t + 1))) := by rw [show q + (t + 1) = q + t + 1 by omega, mks_succ, vcs_app]; simp [vcs]
              rcases hu.out with ⟨rfl, rfl⟩ | ⟨h0, h1⟩
              · obtain ⟨v', w', e1, e2, e3⟩ := app_new (P := Tryz.prog) 64 64 (.agg #[.int .i64 0, .int .i64 0, .string e0]) 32 Tryz.underlying64 info37 rfl (by decide) (by decide) qc q (vcs (mks c q)) (own_next hown hbA) wS.heap.size (vc (sgV c (q + 0))) rfl (vc_one _) hr (by omega) (Nat.le_trans hbz (Nat.le_trans hzc hbC.size))
                have em' : vcs (mks c q) ++ vc (sgV c (q + 0)) = vcs (mks c (q + (0 + 1))) := em
                rw [em'] at e2
                exact ⟨v', w', e1, own_down e2 hbC.size, hbC.trans (e3.mono hbC.size)⟩
              · obtain ⟨v', w', e1, e2, e3⟩ := app_any (P := Tryz.prog) 64 64 (.agg #[.int .i64 0, .int .i64 0, .string e0]) 32 Tryz.underlying64 info37 rfl (by decide) (by decide) u7 (q + t) (vcs (mks c (q + t))) (own_next h1 hbA) wS.heap.size (vc (sgV c (q + t))) rfl (vc_one _) hr (by omega) hbC.size
                rw [em] at e2
                exact ⟨v', w', e1, e2, hbC.grown e3 hbC.size (fun k hk => (h1.lt k hk).1)⟩
            clear hown hu
            go_wp2_with (first
              | (go_at_call 40; refine hsg.mono ?_; rintro e wS ⟨rfl, hbS⟩; obtain ⟨v', w', hrun, how', hbw'⟩ := HAP.out wS hbS; clear HAP)
              | (at_builtin; refine wpList_apr rfl (.tmp 49) (.tmp 59) 64 rfl hrun ?_)
              | go_in)
            exact ⟨⟨t + 1, by omega, by go_num, .inr ⟨by omega, how'.out⟩, hbw'⟩, by simp [intOf]; omega⟩
          · obtain rfl : t = 70 := by omega
            have hu7 : wr.ownsRow wc.heap.size 52 3 u7 (q + 70) (vcs (mks c (q + 70))) := by
              rcases hu.out with ⟨h0, _⟩ | ⟨_, h1⟩
              · omega
              · exact h1
            obtain ⟨o7, c7, rfl, -, -⟩ := own_slice hu7
            have HAP : Hid (∃ v' w', (Builtin.append_ #[44, 44] 44 #[u5, .slice (some ⟨wr.heap.size, 0, none⟩) 1 1]).run Tryz.prog (wr.alloc (.cells #[.slice o7 (q + 70) c7] 64)) = .ok v' w' ∧ Hid (w'.ownsRow w2.heap.size 64 1 v' (c + 1) (us ++ [.slice o7 (q + 70) c7])) ∧ Hid (Lng w' w2.heap.size (Ls.map List.length) (us ++ [.slice o7 (q + 70) c7])) ∧ Hid (Below w2.heap.size w2 w')) := by
              have nb : Below wr.heap.size wr (wr.alloc (.cells #[.slice o7 (q + 70) c7] 64)) := (Below.refl _ wr).alloc (Nat.le_refl _) _
              have hbA := below2 hB7.out nb
              have hbC := below2 hB.out hbA
              have ho5 := own_next hO5.out hbA
              obtain ⟨v', w', e1, e2, e3⟩ := app_any (P := Tryz.prog) 44 44 (.slice none 0 0) 24 Tryz.underlying44 info59 rfl (by decide) (by decide) u5 c us ho5 wr.heap.size [.slice o7 (q + 70) c7] rfl (one_slice _ _ _) (fun j u hj => by
                have e := World.alloc_heap_new wr (.cells #[.slice o7 (q + 70) c7] 64)
                rw [Nat.zero_add]
                simp only [World.cell?, e]
                simpa using hj) (by omega) hbC.size
              exact ⟨v', w', e1, e2, (hG.out.next hbA).push HUS.out HNS.out (own_down (own_next hu7 nb) hzc) ho5 e3, hbC.grown e3 hbC.size (fun k hk => (ho5.lt k hk).1)⟩
            obtain ⟨v', w', hrun, e2, e3, e4⟩ := HAP.out
            have HUS2 : Hid ((us ++ [Value.slice o7 (q + 70) c7]).length = c + 1) := by show (us ++ [Value.slice o7 (q + 70) c7]).length = c + 1; rw [List.length_append, HUS.out]; rfl
            clear HAP hu hu7 hown ho
            go_wp2_with (at_builtin; refine wpList_apr rfl (.tmp 61) (.tmp 63) 44 rfl hrun ?_)
            exact ⟨⟨c + 1, _, by omega, HUS2.out, by go_num, e2, e3, e4⟩, by simp [intOf]; omega⟩
      obtain rfl : c = Ls.length := by omega
      obtain ⟨o5, cap5, rfl, -, -⟩ := own_slice hO5.out
      have H3 : Hid (∀ d (hd : d < Ls.length), ∃ h5 gx cx, o5 = some ⟨h5, 0, none⟩ ∧ wr.cell? ⟨h5, d, none⟩ = some (.slice (some ⟨gx, 0, none⟩) (Ls[d].length + 70) cx) ∧ wr.rangeAt gx 0 (vcs (mks d (Ls[d].length + 70)))) := fun d hd => by
        obtain ⟨q5, c5, e5, _, hr5⟩ := own_slice hO5.out
        cases e5
        obtain ⟨h5, rfl, hr⟩ := hr5 (by omega)
        have hdl : d < us.length := by rw [HUS.out]; exact hd
        have hx := List.getElem?_eq_getElem hdl
        have hox := hG.out d us[d] Ls[d].length hx (by rw [List.getElem?_map, List.getElem?_eq_getElem hd]; rfl)
        obtain ⟨qx, cx, ex, _, hrx⟩ := own_slice hox
        obtain ⟨gx, rfl, hrr⟩ := hrx (by omega)
        have hcell := hr d us[d] hx
        rw [Nat.zero_add, ex] at hcell
        exact ⟨h5, gx, cx, rfl, hcell, hrr⟩
      clear hO5 hG HUS hci hc
      have HB3 : Hid (Below w2.heap.size w2 wr) := hB
      clear hB
      generalize wr = w3 at *
      go_wp2_with fail
      go_loopw [9] (fun s9 wr => ∃ d : Nat, d ≤ Ls.length ∧ s9 = .int .i64 (d : Int) ∧ Hid (Below w3.heap.size w3 wr)) (fun s9 _ => Ls.length - (intOf s9).toNat)
      case atStart => exact ⟨0, Nat.zero_le _, rfl, Below.refl _ _⟩
      case round =>
        obtain ⟨d, hd, rfl, hB⟩ := hrel
        by_cases hdl : d < Ls.length
        · have hdl1 : (d : Int) < (Ls.length : Int) := by omega
          have d0 : (0 : Int) ≤ (d : Int) := by omega
          obtain ⟨h5, gx, cx, rfl, k5, kx⟩ := H3.out d hdl
          obtain ⟨qd, -, kO, kg, kv⟩ := HC.out d hdl w3 HB3.out
          have hq := hn Ls[d] (List.getElem_mem hdl)
          generalize Ls[d].length = q at k5 kx kO kg kv hq
          have HX : Hid (∀ W, Below w3.heap.size w3 W → W.cell? ⟨h5, d, none⟩ = some (.slice (some ⟨gx, 0, none⟩) (q + 70) cx) ∧ W.cell? ⟨O, d, none⟩ = some (.slice qd q q) ∧ W.rangeAt gx 0 (vcs (mks d (q + 70))) ∧ (0 < q → ∃ g, qd = some ⟨g, 0, none⟩ ∧ W.rangeAt g 0 (vcs (mks d q)))) := fun W hW => by
            refine ⟨(hW.cell (p := ⟨h5, d, none⟩) (block_lt_of_cell k5)).trans k5, (hW.cell (p := ⟨O, d, none⟩) (block_lt_of_cell kO)).trans kO, range_next kx hW, fun h0 => ?_⟩
            obtain ⟨q', c', e, _, hr⟩ := own_slice kv
            cases e
            obtain ⟨g, rfl, hrr⟩ := hr h0
            exact ⟨g, rfl, range_next hrr hW⟩
          clear k5 kx kO kv
          go_wp2_with fail
          go_loopw [10] (fun s10 wr => ∃ j : Nat, j ≤ q + 70 ∧ s10 = .int .i64 (j : Int) ∧ Hid (Below w3.heap.size w3 wr)) (fun s10 _ => q + 70 - (intOf s10).toNat)
          case atStart => exact ⟨0, Nat.zero_le _, rfl, hB⟩
          case round =>
            clear hB
            obtain ⟨j, hj, rfl, hB⟩ := hrel
            obtain ⟨k5, kO, kx, kq⟩ := HX.out _ hB.out
            by_cases hjq : j < q + 70
            · have hjq1 : (j : Int) < ((q + 70 : Nat) : Int) := by omega
              have hjq2 : (j : Int) < (q : Int) + 70 := by omega
              have j0 : (0 : Int) ≤ (j : Int) := by omega
              have ex := vcs_get kx j (by rw [mks_len]; exact hjq)
              rw [mks_at, Nat.zero_add] at ex
              have p0 : wr.cell? ⟨gx, j * 3, none⟩ = some (.int .i64 9) := ex 0 _ rfl
              have p1 : wr.cell? ⟨gx, j * 3 + 1, none⟩ = some (.int .i64 (j : Int)) := ex 1 _ rfl
              have p2 : wr.cell? ⟨gx, j * 3 + 2, none⟩ = some (.string (sgT d)) := ex 2 _ rfl
              have c42 : ∀ e os, Calls Tryz.prog 40 #[.int .i64 (d : Int), .int .i64 (j : Int)] (Sort.grow (redrawn wr e) os) fun e w'' => e = .returned (.agg #[.int .i64 9, .int .i64 (j : Int), .string (sgT d)]) ∧ ∃ z : Regrown, w'' = Sort.grow (redrawn wr z.d) z.os := fun e os => Calls.regrown_of (sign_any _ d j (by omega))
              have nv := neqV 9 (j : Int) (sgT d) 9 (j : Int) (sgT d)
              rw [show (!(((9 : Int) == 9 && (j : Int) == (j : Int)) && (sgT d).toList == (sgT d).toList)) = false by simp] at nv
              have y1 := cell_regrown k5
              have y2 := cell_regrown kO
              have y3 := cell_regrown p0
              have y4 := cell_regrown p1
              have y5 := cell_regrown p2
              by_cases hjn : j < q
              · obtain ⟨g, rfl, kg'⟩ := kq (by omega)
                have hjn1 : (j : Int) < (q : Int) := by omega
                have hjn2 : decide ((j : Int) < (q : Int)) = true := decide_eq_true hjn1
                have hjn3 : decide (j < q) = true := decide_eq_true hjn
                have eg := vcs_get kg' j (by rw [mks_len]; exact hjn)
                rw [mks_at, Nat.zero_add] at eg
                have r0 : wr.cell? ⟨g, j * 3, none⟩ = some (.int .i64 9) := eg 0 _ rfl
                have r1 : wr.cell? ⟨g, j * 3 + 1, none⟩ = some (.int .i64 (j : Int)) := eg 1 _ rfl
                have r2 : wr.cell? ⟨g, j * 3 + 2, none⟩ = some (.string (sgT d)) := eg 2 _ rfl
                have y6 := cell_regrown r0
                have y7 := cell_regrown r1
                have y8 := cell_regrown r2
                clear kx kq ex eg kg'
                go_wp2_with fail
                clear k5 kO p0 p1 p2 r0 r1 r2
                refine wp_region_quiet_below (by kernel_rfl) (by kernel_rfl) ?_
                repeat (first | go_big_quiet_step (first | with_reducible exact c42 _ _) | quiet_step (first | with_reducible exact c42 _ _))
                refine wpQuiet_nil ?_
                intro _ hw'
                obtain ⟨⟨dq, osq⟩, hw''⟩ := hw'
                subst hw''
                have hY := below_regrown wr dq osq
                change Exit.then _ _ Exit.normal _ (Sort.grow (redrawn wr dq) osq)
                generalize Sort.grow (redrawn wr dq) osq = Y at hY ⊢
                clear c42
                have hB8 : Hid (Below w3.heap.size w3 Y) := hB.out.trans (hY.mono hB.out.size)
                clear hY y1 y2 y3 y4 y5 y6 y7 y8 nv
                go_wp2
                exact ⟨⟨j + 1, by omega, by go_num, hB8⟩, by simp [intOf]; omega⟩
              · have hjn1 : ¬ ((j : Int) < (q : Int)) := by omega
                have hjn2 : decide ((j : Int) < (q : Int)) = false := decide_eq_false hjn1
                have hjn3 : decide (j < q) = false := decide_eq_false hjn
                clear kx kq ex
                go_wp2_with fail
                clear k5 kO p0 p1 p2
                refine wp_region_quiet_below (by kernel_rfl) (by kernel_rfl) ?_
                repeat (first | go_big_quiet_step (first | with_reducible exact c42 _ _) | quiet_step (first | with_reducible exact c42 _ _))
                refine wpQuiet_nil ?_
                intro _ hw'
                obtain ⟨⟨dq, osq⟩, hw''⟩ := hw'
                subst hw''
                have hY := below_regrown wr dq osq
                change Exit.then _ _ Exit.normal _ (Sort.grow (redrawn wr dq) osq)
                generalize Sort.grow (redrawn wr dq) osq = Y at hY ⊢
                clear c42
                have hB8 : Hid (Below w3.heap.size w3 Y) := hB.out.trans (hY.mono hB.out.size)
                clear hY y1 y2 y3 y4 y5 nv
                go_wp2
                exact ⟨⟨j + 1, by omega, by go_num, hB8⟩, by simp [intOf]; omega⟩
            · obtain rfl : j = q + 70 := by omega
              clear kx kq
              go_wp2
              exact ⟨⟨d + 1, by omega, by go_num, hB⟩, by simp [intOf]; omega⟩
        · obtain rfl : d = Ls.length := by omega
          have hji : ¬ ((Ls.length : Int) < (Ls.length : Int)) := by omega
          go_wp2
          first | (change bodyPost Tryz.prog Tryz.f19 _ Exit.ret _ _) | (simp only [Exit.noGoto])
          go_ret
          exact ⟨rfl, (HK2.out.next HB3.out).next hB.out⟩
end Go.Proofs.YtahdkffijlfmnaaGreatDoor.Hp

namespace Go.Proofs.YtahdkffijlfmnaaGreatDoor
open Go.RowKit
section
variable {P : Program} {e : TypeId} {size : Nat}
/-- What lies elsewhere, appended. -/
theorem app_src (t ty : TypeId) (z : Value) (bytes : Nat) (ht : P.underlying t = some (.slice e)) (hinf : (P.info? e).map (fun i => (i.zero, i.size, i.bytes)) = some (some z, size, bytes)) (hzs : z.cells.size = size) (hsz : 0 < size) (hby : 1 ≤ bytes)
    {w : World} {base G n cap : Nat} {xs : List Value} (hown : w.ownsRow base e size (.slice (some ⟨G, 0, none⟩) n cap) n xs) (q : Option Addr) (m c : Nat) (ys : List Value) (hl : ys.length = m * size) (hq : q = none → m = 0) (hr : 0 < m → ∃ g o, q = some ⟨g, o, none⟩ ∧ w.rangeAt g o ys) (h1 : ∀ u ∈ ys, u.oneCell' = true) (h40 : (n + m) * bytes ≤ 140737488355328) (hbase : base ≤ w.heap.size) :
    ∃ G' cap' w', (Builtin.append_ #[t, t] ty #[.slice (some ⟨G, 0, none⟩) n cap, .slice q m c]).run P w = .ok (.slice (some ⟨G', 0, none⟩) (n + m) cap') w' ∧ w'.ownsRow base e size (.slice (some ⟨G', 0, none⟩) (n + m) cap') (n + m) (xs ++ ys) ∧ w.grownBy w' (some G) := by
  obtain ⟨i, hi, hz0, hz1, hz2⟩ := info_parts hinf
  have hb : (n + m) * bytes ≤ 140737488355328 := h40
  have hnm : n + m ≤ 140737488355328 := Nat.le_trans (Nat.le_mul_of_pos_right (n + m) hby) hb
  cases q with
  | none =>
    obtain rfl := hq rfl
    obtain rfl : ys = [] := List.length_eq_zero_iff.1 (by rw [hl, Nat.zero_mul])
    refine ⟨G, cap, w, ?_, by rw [List.append_nil]; exact hown, World.grownBy.refl w _⟩
    rcases hown.2 with ⟨q, _⟩ | ⟨g, cap', cur, hv, _, _, hnc, _⟩
    · cases q
    · cases hv
      simp [Builtin.append_, run_underlying ht, sizeOf, typeInfo, hi, Builtin.lenOf, Builtin.firstCells, hnc, storeCells]
  | some a =>
    have hnews : ∀ j u, ys[j]? = some u → w.cell? (a.add j) = some u := fun j u hu => by
      rcases Nat.eq_zero_or_pos m with rfl | hm
      · obtain rfl : ys = [] := List.length_eq_zero_iff.1 (by rw [hl, Nat.zero_mul])
        cases hu
      · obtain ⟨g, o, hq, hg⟩ := hr hm
        cases hq
        rw [Addr.add_mid]
        exact hg j u hu
    obtain ⟨v', w', hr, h2, h3, h4⟩ := run_append_own (P := P) w base t ty e i z size bytes ht hi hz0 hz1 hz2 hzs hsz _ n xs hown a m c ys hl hnews h1 (by unfold maxLen; omega) hb hbase
    rcases h2.2 with ⟨q, -⟩ | ⟨G', cap', cur, rfl, -⟩
    · have := (h4.1 q).1
      cases this
    · exact ⟨G', cap', w', hr, h2, h3⟩
end
end Go.Proofs.YtahdkffijlfmnaaGreatDoor
