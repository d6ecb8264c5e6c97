import Derived.Test.YtahdkffijlfmnaaGreatDoorT18
import Derived.Test.YtahdkffijlfmnaaGreatDoorT19
namespace Go.Proofs.YtahdkffijlfmnaaGreatDoor
open Go.RowKit
open Hp (V vc vcs)
def wantsT : List Nat := [0, 0, 0, 0, 0, 1, 1, 1, 2, 0, 1, 0, 1, 0, 1, 2, 3, 1, 1, 0, 0, 0, 0, 1]
structure Glo (w : World) : Prop where
  zt : Hp.Zt w
  t10 : Hp.Tab10 w
  wants : ∀ k, k < 24 → w.cell? ⟨0, k, none⟩ = some (.int .i64 ((wantsT.getD k 0 : Nat) : Int))
  tabs : Tabs w
theorem g10 : Tryz.prog.globalNamed "internal/strconv.uint64pow10" = some 5 := by kernel_rfl
theorem Glo.same {w w' : World} (h : Glo w) (hk : ∀ b, b < 8 → w'.heap[b]? = w.heap[b]?) (hs : w.heap.size ≤ w'.heap.size) : Glo w' where
  zt := h.zt.same (hk _ (by decide))
  t10 := by
    have := h.t10
    unfold Hp.Tab10 Lib.TabIs World.var? at this ⊢
    simp only [g10, Option.bind_some] at this ⊢
    rw [hk _ (by decide)]
    exact this
  wants k hk2 := (World.cell?_of_block (w := w) (a := ⟨0, k, none⟩) (hk 0 (by decide))).trans (h.wants k hk2)
  tabs := by
    have c : ∀ g o, g < 8 → w'.cell? ⟨g, o, none⟩ = w.cell? ⟨g, o, none⟩ := fun g o hg => World.cell?_of_block (w := w) (a := ⟨g, o, none⟩) (hk g hg)
    have t := h.tabs
    refine ⟨fun k hk => ?_, fun k hk => ?_, fun k hk => (c _ _ (by decide)).trans (t.typ k hk), Nat.le_trans t.size hs⟩
    · obtain ⟨a, b, d⟩ := t.ins k hk
      exact ⟨(c _ _ (by decide)).trans a, (c _ _ (by decide)).trans b, (c _ _ (by decide)).trans d⟩
    · obtain ⟨a, b, d⟩ := t.shp k hk
      exact ⟨(c _ _ (by decide)).trans a, (c _ _ (by decide)).trans b, (c _ _ (by decide)).trans d⟩
theorem Glo.next {w w' : World} (h : Glo w) (k : Below w.heap.size w w') : Glo w' := h.same (fun b hb => k.block b (by have := h.tabs.size; omega)) k.size
theorem Glo.kept {w w' : World} {G : Nat → Prop} (h : Glo w) (k : Kp G w w') (hd : ∀ b, b < 8 → ¬ G b) : Glo w' := h.same (fun b hb => k.block b (by have := h.tabs.size; omega) (hd b hb)) k.size
def GloM (w0 : World) (L0 : List Fm) (fv ov : Value) (F : Nat → Prop) : Prop := Glo w0 ∧ ∀ b, b < 8 → ¬ foot L0 fv ov F b
theorem Now.glo {w0 w : World} {g : Nat} {K : Cg} {S : Ms} {L0 : List Fm} {ov : Value} {F Q : Nat → Prop} {gf cap n : Nat} {m : Fm} (h : Now w0 w g K L0 ov F Q gf cap n S m) (hg : GloM w0 L0 (.slice (some ⟨gf, 0, none⟩) (n + 1) cap) ov F) : Glo w := by
  obtain ⟨L, -, k⟩ := h
  exact hg.1.kept k.kp hg.2
theorem GloM.zap {w0 : World} {L0 : List Fm} {fv ov : Value} {F : Nat → Prop} (h : GloM w0 L0 fv ov F) : Zap w0 L0 fv ov F := ⟨h.1.zt, h.2 _ (by decide)⟩
def doStrS (S : Ms) (n : Nat) (f : Fr) (xs : List V) (v : V) : Except Int Ms :=
  if plainS v = true then doPush (S.cut n f xs) n { f with st := xs } (3, 0, Hp.strS v.1 v.2.1 v.2.2) else .error 7
def I64 (n : Int) : Prop := -9223372036854775808 ≤ n ∧ n ≤ 9223372036854775807
set_option maxRecDepth 100000 in
set_option maxHeartbeats 4000000 in
theorem doStr_any {w : World} {g : Nat} {K : Cg} {S : Ms} {L : List Fm} {ov : Value} {F Q : Nat → Prop} {gf cap n : Nat} {m : Fm} (h : Now w w g K L ov F Q gf cap n S m) (hG : GloM w L (.slice (some ⟨gf, 0, none⟩) (n + 1) cap) ov F) {xs : List V} {v : V} (hx : m.f.st = xs ++ [v]) (hv : v.2.2.size ≤ 9223372036854775807) (hi : I64 v.2.1) :
    Calls Tryz.prog 91 #[.pointer (some ⟨g, 0, none⟩)] w fun z w' => Hid (DoR w w' g K L (.slice (some ⟨gf, 0, none⟩) (n + 1) cap) ov F Q gf (n * 4) z (doStrS S n m.f xs v)) := by
  obtain ⟨k, j, s⟩ := v
  have H0 : Hid (Now w w g K L ov F Q gf cap n S m) := h
  have HX : Hid (m.f.st = xs ++ [(k, j, s)] ∧ s.size ≤ 9223372036854775807 ∧ I64 j) := ⟨hx, hv, hi⟩
  have HG : Hid _ := hG
  clear h hx hv hi hG
  unfold doStrS
  cases hp : plainS (k, j, s) with
  | false =>
    rw [if_neg (by decide)]
    have HP : Hid (plainS (k, j, s) = false) := hp
    clear hp
    go_enter Tryz.func91, Tryz.ntmps91
    go_wp2_with (first
      | (go_at_call 28; refine (Now.top H0.out).mono ?_; rintro z2 w2 ⟨rfl, H2⟩; clear H0)
      | (go_at_call 109; refine (Now.pop H2.out HX.out.1).mono ?_; rintro z3 w3 ⟨rfl, H3⟩; clear H2; obtain ⟨tv3, H3⟩ := H3.out; replace H3 : Hid _ := H3)
      | fail)
    have f1 := Full.new w3 #[.int .i64 k, .int .i64 j, .string s] 52
    have H4 : Hid _ := H3.out.alloc (.cells #[.int .i64 k, .int .i64 j, .string s] 52)
    generalize w3.alloc (.cells #[.int .i64 k, .int .i64 j, .string s] 52) = X at H4 f1 ⊢
    clear H3
    refine (isPlain_any (k, j, s) X).mono ?_
    rintro z4 w4 ⟨rfl, hb4⟩
    have H5 : Hid _ := H4.out.next hb4
    clear H4 hb4 f1
    rw [HP.out]
    go_wp2
    go_ret
    exact H5.out.err 7
  | true =>
    rw [if_pos rfl]
    have HP : Hid (plainS (k, j, s) = true) := hp
    clear hp
    go_enter Tryz.func91, Tryz.ntmps91
    go_wp2_with (first
      | (go_at_call 28; refine (Now.top H0.out).mono ?_; rintro z2 w2 ⟨rfl, H2⟩; clear H0)
      | (go_at_call 109; refine (Now.pop H2.out HX.out.1).mono ?_; rintro z3 w3 ⟨rfl, H3⟩; clear H2; obtain ⟨tv3, H3⟩ := H3.out; replace H3 : Hid _ := H3)
      | fail)
    have f1 := Full.new w3 #[.int .i64 k, .int .i64 j, .string s] 52
    have H4 : Hid _ := H3.out.alloc (.cells #[.int .i64 k, .int .i64 j, .string s] 52)
    generalize w3.alloc (.cells #[.int .i64 k, .int .i64 j, .string s] 52) = X at H4 f1 ⊢
    clear H3
    refine (isPlain_any (k, j, s) X).mono ?_
    rintro z4 w4 ⟨rfl, hb4⟩
    have H5 : Hid _ := H4.out.next hb4
    replace f1 := f1.next hb4
    clear H4 hb4
    rw [HP.out]
    have x0 := (f1.cell 0 _ rfl).1
    have x1 := (f1.cell 1 _ rfl).1
    have x2 := (f1.cell 2 _ rfl).1
    clear f1
    go_wp2_with (first
      | (go_at_call 120; refine (Hp.str_any k j s w4 HX.out.2.1 HX.out.2.2 (H5.out.glo HG.out).t10).mono ?_; rintro z6 w6 ⟨rfl, hb6⟩; have H6 : Hid _ := H5.out.next hb6; clear x0 x1 x2)
      | (go_at_call 107; refine (Now.push H6.out (3, 0, Hp.strS k j s)).mono ?_; intro z7 w7 H7; obtain ⟨t7, e7⟩ := DoR.ret H7.out; subst e7)
      | fail)
    go_ret
    exact H7
end Go.Proofs.YtahdkffijlfmnaaGreatDoor

namespace Go.Proofs.YtahdkffijlfmnaaGreatDoor
open Go.RowKit
open Hp (V vc vcs)
theorem rown_nil (w : World) (e : TypeId) (sz : Nat) : OwnR w e sz (.slice none 0 0) 0 [] := .inr (.inl ⟨none, rfl, rfl, rfl⟩)
theorem app_get {α : Type} {L : List α} {a x : α} {i : Nat} (h : (L ++ [a])[i]? = some x) : (i < L.length ∧ L[i]? = some x) ∨ (i = L.length ∧ x = a) := by
  rw [List.getElem?_append] at h
  split at h
  · exact .inl ⟨by assumption, h⟩
  · rename_i hl
    have : i - L.length = 0 := by
      rcases Nat.eq_zero_or_pos (i - L.length) with h' | h'
      · exact h'
      · rw [List.getElem?_eq_none (by simp; omega)] at h; cases h
    rw [this] at h
    cases h
    exact .inr ⟨by omega, rfl⟩
theorem MachM.seven {w w5 : World} {g : Nat} {K : Cg} {S S' : Ms} {L : List Fm} {fv ov v5 : Value} {F Q : Nat → Prop} (h : MachM w g K S L fv ov F Q) (h5 : ∀ j, w5.cell? ⟨g, j, none⟩ = w.cell? ⟨g, j, none⟩) (hh : Hp.HeapOf w5 (mhp g K S fv ov) K.lim S.hp F) (e1 : S'.hp = S.hp) (e2 : S'.rd = S.rd) (e3 : S'.steps = S.steps) (e4 : S'.ph = S.ph) (e5 : S'.tr = S.tr) :
    Hp.HeapOf (w5.setCell ⟨g, 7, none⟩ v5) (mhp g K S' v5 ov) K.lim S'.hp F := by
  rw [e1]
  refine hh.put 7 (.inl (show 7 < 8 by decide)) v5 (msc K S' v5 ov) fun x hx => ?_
  have other : ∀ j v, j ≠ 7 → w.cell? ⟨g, j, none⟩ = some v → (w5.setCell ⟨g, 7, none⟩ v5).cell? ⟨g, j, none⟩ = some v := fun j v hj hv => (World.cell?_setCell_other _ _ _ _ (fun q => hj (by have := congrArg Addr.off q; exact (by simpa using this : 7 = j).symm))).trans ((h5 j).trans hv)
  have same : (w5.setCell ⟨g, 7, none⟩ v5).cell? ⟨g, 7, none⟩ = some v5 := World.cell?_setCell_same' _ _ _ (by rw [h5 7, h.k7]; rfl)
  unfold msc at hx
  rw [e2, e3, e4, e5] at hx
  simp only [List.mem_cons, List.not_mem_nil, or_false] at hx
  rcases hx with rfl | rfl | rfl | rfl | rfl | rfl | rfl | rfl | rfl | rfl | rfl | rfl | rfl
  · exact ⟨.inl (show 0 < 8 by decide), other 0 _ (by decide) h.k0⟩
  · exact ⟨.inl (show 1 < 8 by decide), other 1 _ (by decide) h.k1⟩
  · exact ⟨.inl (show 2 < 8 by decide), other 2 _ (by decide) h.k2⟩
  · exact ⟨.inl (show 3 < 8 by decide), other 3 _ (by decide) h.k3⟩
  · exact ⟨.inl (show 4 < 8 by decide), other 4 _ (by decide) h.k4⟩
  · exact ⟨.inl (show 5 < 8 by decide), other 5 _ (by decide) h.k5⟩
  · exact ⟨.inl (show 6 < 8 by decide), other 6 _ (by decide) h.k6⟩
  · exact ⟨.inl (show 7 < 8 by decide), same⟩
  · exact ⟨.inr (show 8 + 4 ≤ 12 by decide), other 12 _ (by decide) h.k12⟩
  · exact ⟨.inr (show 8 + 4 ≤ 13 by decide), other 13 _ (by decide) h.k13⟩
  · exact ⟨.inr (show 8 + 4 ≤ 14 by decide), other 14 _ (by decide) h.k14⟩
  · exact ⟨.inr (show 8 + 4 ≤ 15 by decide), other 15 _ (by decide) h.k15⟩
  · exact ⟨.inr (show 8 + 4 ≤ 16 by decide), other 16 _ (by decide) h.k16⟩
theorem MachM.more {w w5 : World} {g : Nat} {K : Cg} {S : Ms} {L : List Fm} {fv ov v5 : Value} {F Q : Nat → Prop} (h : MachM w g K S L fv ov F Q) (f : Fr) (sv : Value) (hk : Kp (fun x => obk fv = some x) w w5)
    (ho : OwnR w5 89 4 v5 (L.length + 1) ((L ++ [(⟨f, sv, .slice none 0 0⟩ : Fm)]).flatMap fmc)) (hv : ∀ b, obk v5 = some b → obk fv = some b ∨ w.heap.size ≤ b) (hs : OwnR w5 52 3 sv f.sl.length (vcs f.sl)) (hn : ∀ b, obk sv = some b → w.heap.size ≤ b) (hst : f.st = []) :
    WentM w (w5.setCell ⟨g, 7, none⟩ v5) g K { S with fs := S.fs ++ [f] } L fv ov F Q := by
  obtain ⟨hb, hF, hr⟩ := h.heap.blk
  have hb : Blk w g 82 17 := hb
  have hF : F g := hF
  have hgl : g < w.heap.size := hb.lt
  have hlt := h.lt
  have h5 : w5.heap[g]? = w.heap[g]? := hk.block g hgl fun q => h.nv g (.inl q) hF
  have keep : ∀ b, b < w.heap.size → b ≠ g → obk fv ≠ some b → (w5.setCell ⟨g, 7, none⟩ v5).heap[b]? = w.heap[b]? := fun b h1 h2 h3 => (set_heap (a := ⟨g, 7, none⟩) h2).trans (hk.block b h1 h3)
  have hne : ∀ b, ¬ F b → b ≠ g := fun b hb q => hb (q ▸ hF)
  have hv5 : obk v5 ≠ some g := fun q => by
    rcases hv g q with r | r
    · exact h.nv g (.inl r) hF
    · omega
  have hm' : ∀ m ∈ L ++ [(⟨f, sv, .slice none 0 0⟩ : Fm)], m ∈ L ∨ m = ⟨f, sv, .slice none 0 0⟩ := fun m hm => by simpa using hm
  have old : ∀ m ∈ L, ∀ b, obk m.sv = some b ∨ obk m.tv = some b → b < w.heap.size := fun m hm b hb => hlt b (.inl (.inr (.inr (.inr ⟨m, hm, hb⟩))))
  have fvn : ∀ m ∈ L, ∀ b, obk m.sv = some b ∨ obk m.tv = some b → obk fv ≠ some b := fun m hm b hb q => by
    rcases hb with hb | hb
    · exact rown_ne (h.rows m hm).1 (rown_blk h.fr b q) (by decide) hb
    · exact rown_ne (h.rows m hm).2 (rown_blk h.fr b q) (by decide) hb
  have hms : OwnR (w5.setCell ⟨g, 7, none⟩ v5) 52 3 sv f.sl.length (vcs f.sl) := rown_same hs fun b hb => set_heap (a := ⟨g, 7, none⟩) fun q => by
    have := hn b hb
    have q : b = g := q
    omega
  refine ⟨L ++ [⟨f, sv, .slice none 0 0⟩], v5, ov, F, ⟨h.code.same (fun b hb => keep b (h.code.lt b hb) (hne b (h.nq b hb).1) (h.nq b hb).2.1) (by rw [set_size]; exact hk.size), ?_, ?_, by rw [List.map_append, h.abs]; rfl, fun m hm => ?_, ?_, fun i j x y hi hj => ?_, fun m hm b hb q => ?_, fun b hb q => ?_, fun b hb => ?_⟩, fun b hb => ?_, ?_⟩
  · exact h.seven (S' := { S with fs := S.fs ++ [f] }) (fun j => World.cell?_of_block (w := w) (a := ⟨g, j, none⟩) h5) (h.heap.same (fun b hb => hk.block b (hlt b (.inl (.inl hb))) fun q => h.nv b (.inl q) hb) hk.size) rfl rfl rfl rfl rfl
  · rw [List.length_append]
    exact rown_same ho fun b hb => set_heap (a := ⟨g, 7, none⟩) fun q => hv5 (by have q : b = g := q; rw [← q]; exact hb)
  · rcases hm' m hm with hm | rfl
    · refine ⟨rown_same (h.rows m hm).1 fun b hb => keep b (old m hm b (.inl hb)) (hne b (h.nf m hm b (.inl hb))) (fvn m hm b (.inl hb)), rown_same (h.rows m hm).2 fun b hb => keep b (old m hm b (.inr hb)) (hne b (h.nf m hm b (.inr hb))) (fvn m hm b (.inr hb))⟩
    · refine ⟨hms, ?_⟩
      show OwnR _ _ _ (.slice none 0 0) f.st.length (vcs f.st)
      rw [hst]
      exact rown_nil _ _ _
  · refine rown_same h.out fun b hb => keep b (hlt b (.inl (.inr (.inr (.inl hb))))) (hne b (h.nv b (.inr hb))) fun q => ?_
    exact rown_ne h.out (rown_blk h.fr b q) (by decide) hb
  · rcases app_get hi with ⟨h1, h2⟩ | ⟨rfl, rfl⟩ <;> rcases app_get hj with ⟨h3, h4⟩ | ⟨rfl, rfl⟩
    · exact h.sep i j x y h2 h4
    · refine ⟨fun b _ q => (by cases q), fun _ => ⟨fun b hb q => ?_, fun b _ q => (by cases q)⟩⟩
      have := old x (List.mem_of_getElem? h2) b (.inl hb)
      have := hn b q
      omega
    · refine ⟨fun b hb q => ?_, fun _ => ⟨fun b hb q => ?_, fun b q => (by cases q)⟩⟩
      · have := old y (List.mem_of_getElem? h4) b (.inr q)
        have := hn b hb
        omega
      · have := old y (List.mem_of_getElem? h4) b (.inl q)
        have := hn b hb
        omega
    · exact ⟨fun b _ q => (by cases q), fun q => absurd rfl q⟩
  · rcases hm' m hm with hm | rfl
    · exact h.nf m hm b hb q
    · have := hlt b (.inl (.inl q))
      rcases hb with hb | hb
      · have := hn b hb
        omega
      · cases hb
  · rcases hb with hb | hb
    · rcases hv b hb with r | r
      · exact h.nv b (.inl r) q
      · have := hlt b (.inl (.inl q))
        omega
    · exact h.nv b (.inr hb) q
  · obtain ⟨n0, n1, n2, n3⟩ := h.nq b hb
    have hbl := h.code.lt b hb
    refine ⟨n0, fun q => ?_, n2, fun m hm => ?_⟩
    · rcases hv b q with r | r
      · exact n1 r
      · omega
    · rcases hm' m hm with hm | rfl
      · exact n3 m hm
      · refine ⟨fun q => ?_, fun q => by cases q⟩
        have := hn b q
        omega
  · rcases hb with hb | hb | hb | ⟨m, hm, hb⟩
    · exact .inl (.inl hb)
    · rcases hv b hb with r | r
      · exact .inl (.inr (.inl r))
      · exact .inr r
    · exact .inl (.inr (.inr (.inl hb)))
    · rcases hm' m hm with hm | rfl
      · exact .inl (.inr (.inr (.inr ⟨m, hm, hb⟩)))
      · rcases hb with hb | hb
        · exact .inr (hn b hb)
        · cases hb
  · exact (⟨hk.os, hk.tape, hk.output, hk.size, fun b hb hn => hk.block b hb fun q => hn (.inr (.inl q))⟩ : Kp (foot L fv ov F) w w5).setCell (p := ⟨g, 7, none⟩) (.inl (.inl hF)) _
end Go.Proofs.YtahdkffijlfmnaaGreatDoor

namespace Go.Proofs.YtahdkffijlfmnaaGreatDoor
open Go.RowKit
open Hp (V vc vcs)
def zeroV (s : Int) : V := (if 0 ≤ kindS s ∧ kindS s ≤ 4 then kindS s else 0, 0, Hp.e0)
def slotsS (so : List Int) (args : List V) : List V := args ++ (so.drop args.length).map zeroV
theorem run_makeV (N : Nat) (hN : N ≤ 1000000) (w : World) : ∃ Z : Array Value, Z.size = N * 3 ∧ (Instr.makeSlice 64 (.int .i64 (N : Int)) (.int .i64 (N : Int))).run Tryz.prog w = .ok (.slice (some ⟨w.heap.size, 0, none⟩) N N) (w.alloc (.cells Z 52)) := by
  obtain ⟨i, hq, hz, hi, hb⟩ := info_parts Hp.info37
  have := run_make (P := Tryz.prog) w 64 52 i _ Tryz.underlying64 hq hz .i64 .i64 (N : Int) (N : Int) (by omega) (by omega) (by rw [hb]; omega) (by omega)
  rw [show (N : Int).toNat = N by omega] at this
  exact ⟨_, by rw [size_madeCells, hi], this⟩
theorem run_copyV (w : World) (ty : TypeId) (B N : Nat) (q : Option Addr) (cp : Nat) (args : List V) (hn : args.length ≤ N) (hq : 0 < args.length → ∃ b o, q = some ⟨b, o, none⟩ ∧ w.rangeAt b o (vcs args)) (ht : w.there B 0 (args.length * 3)) :
    (Builtin.copy_ #[64, 64] ty #[.slice (some ⟨B, 0, none⟩) N N, .slice q args.length cp]).run Tryz.prog w = .ok (goInt (args.length : Int)) (w.setCells B 0 (vcs args)) := by
  obtain ⟨i, hi, _, hz, _⟩ := info_parts Hp.info37
  have hm : min args.length N = args.length := by omega
  have hst := run_storeCells_cells (P := Tryz.prog) B 0 (vcs args) 0 w (fun j hj => by simpa using (ht j (by rw [Hp.vcs_len] at hj; omega)).1) (fun j hj => by simpa using (ht j (by rw [Hp.vcs_len] at hj; omega)).2) Hp.vcs_one
  rcases Nat.eq_zero_or_pos args.length with h0 | h0
  · have e : args = [] := List.eq_nil_of_length_eq_zero h0
    subst e
    cases q with
    | none => simp [Builtin.copy_, run_underlying Tryz.underlying64, Builtin.lenOf, Builtin.firstCells, sizeOf, typeInfo, hi, storeCells, vcs, World.setCells]
    | some a =>
      have hll := run_loadCells_list (P := Tryz.prog) w a [] (fun j v hv => by simp at hv)
      simp only [List.length_nil] at hll
      simp [Builtin.copy_, run_underlying Tryz.underlying64, Builtin.lenOf, Builtin.firstCells, sizeOf, typeInfo, hi, hll, storeCells, vcs, World.setCells]
  · obtain ⟨b, o, rfl, hr⟩ := hq h0
    have hll := run_loadCells_list (P := Tryz.prog) w ⟨b, o, none⟩ (vcs args) (fun j v hv => by rw [Addr.add_mid]; exact hr j v hv)
    rw [Hp.vcs_len] at hll
    simp [Builtin.copy_, run_underlying Tryz.underlying64, Builtin.lenOf, Builtin.firstCells, sizeOf, typeInfo, hi, hz, hm, hll, hst]
theorem info_fr : (Tryz.prog.info? 89).map (fun i => (i.zero, i.size, i.bytes)) = some (some (.agg #[.int .i64 0, .int .i64 0, .slice none 0 0, .slice none 0 0]), 4, 64) := by kernel_rfl
structure BeI (w W : World) (en : List Value) (so : List Int) (N i : Nat) : Prop where
  bl : Below w.heap.size w W
  en : Full W w.heap.size 71 en
  sl : ∃ rest, rest.length = (N - i) * 3 ∧ Full W (w.heap.size + 1) 52 (vcs ((so.take i).map zeroV) ++ rest)
  sz : w.heap.size + 2 ≤ W.heap.size
theorem BeI.next {w W W' : World} {en : List Value} {so : List Int} {N i : Nat} (h : BeI w W en so N i) (k : Below W.heap.size W W') : BeI w W' en so N i := by
  obtain ⟨r, h1, h2⟩ := h.sl
  exact ⟨below2 h.bl k, h.en.next k, ⟨r, h1, h2.next k⟩, Nat.le_trans h.sz k.size⟩
theorem BeI.put {w W : World} {en : List Value} {so : List Int} {N i : Nat} (h : BeI w W en so N i) (hi : i < N) (hl : so.length = N) : BeI w (W.setCells (w.heap.size + 1) (i * 3) (vc (zeroV so[i]))) en so N (i + 1) := by
  obtain ⟨r, h1, h2⟩ := h.sl
  obtain ⟨a, b, c, r, rfl⟩ : ∃ a b c r', r = a :: b :: c :: r' := by
    match r, h1 with
    | a :: b :: c :: r, _ => exact ⟨a, b, c, r, rfl⟩
    | [], h1 => simp at h1; omega
    | [a], h1 => simp at h1; omega
    | [a, b], h1 => simp at h1; omega
  have hlen : (vcs ((so.take i).map zeroV)).length = i * 3 := by rw [Hp.vcs_len, List.length_map, List.length_take]; omega
  have h3 := Full.put (g := w.heap.size + 1) (t := 52) (vc (zeroV so[i])) (a := vcs ((so.take i).map zeroV)) (b := [a, b, c]) (d := r) h2 rfl
  rw [hlen] at h3
  refine ⟨below_sets h.bl (by omega) _ _, h.en.other (by omega), ⟨r, ?_, ?_⟩, by rw [sets_size]; exact h.sz⟩
  · simp at h1; omega
  · have e : vcs ((so.take (i + 1)).map zeroV) = vcs ((so.take i).map zeroV) ++ vc (zeroV so[i]) := by
      rw [List.take_succ_eq_append_getElem (by omega), List.map_append, Hp.vcs_app]
      simp [vcs]
    rw [e, List.append_assoc]
    exact h3
set_option maxRecDepth 100000 in
set_option maxHeartbeats 4000000 in
theorem begin_any {w : World} {g : Nat} {K : Cg} {S : Ms} {L : List Fm} {fv ov : Value} {F Q : Nat → Prop} (h : MachM w g K S L fv ov F Q) {i : Nat} (hi : i < K.Es.length) (hso : (K.Es[i]).1.sorts.length ≤ 1000000) (hL : L.length ≤ 1000000)
    {q : Option Addr} {cp : Nat} {args : List V} (ha : args.length ≤ (K.Es[i]).1.sorts.length) (hq : 0 < args.length → ∃ b o, q = some ⟨b, o, none⟩ ∧ w.rangeAt b o (vcs args)) :
    Calls Tryz.prog 26 #[.pointer (some ⟨g, 0, none⟩), .int .i64 (i : Int), .slice q args.length cp] w fun z w' => (∃ u, z = .returned u) ∧ Hid (WentM w w' g K { S with fs := S.fs ++ [⟨(i : Int), (K.Es[i]).1.start, slotsS (K.Es[i]).1.sorts args, []⟩] } L fv ov F Q) := by
  obtain ⟨ge, oe, he, -, e0, e1, e2, e3, e4⟩ := h.code.ent i hi
  have HM : Hid (MachM w g K S L fv ov F Q) := h
  have c1 := h.k1
  rw [← h.code.len, he] at c1
  have hsr := h.code.sr K.Es[i] (List.getElem_mem hi)
  obtain ⟨E, hEE⟩ : ∃ E, K.Es[i] = E := ⟨_, rfl⟩
  rw [hEE] at e0 e1 e2 e3 e4 hso ha hsr ⊢
  obtain ⟨ne, hne⟩ : ∃ ne, K.Es.length = ne := ⟨_, rfl⟩
  rw [hne] at c1 hi
  have i0 : (0 : Int) ≤ (i : Int) := by omega
  have i1 : (i : Int) < (ne : Int) := by omega
  obtain ⟨N, hN⟩ : ∃ N, E.1.sorts.length = N := ⟨_, rfl⟩
  rw [hN] at e3 hso
  obtain ⟨sq, hsq⟩ : ∃ sq, E.2.1 = sq := ⟨_, rfl⟩
  rw [hsq] at e3 hsr
  have HA : Hid (args.length ≤ E.1.sorts.length ∧ (0 < args.length → ∃ b o, q = some ⟨b, o, none⟩ ∧ w.rangeAt b o (vcs args))) := ⟨ha, hq⟩
  have HSR : Hid (∀ i (_ : i < N), ∃ b o, sq = some ⟨b, o, none⟩ ∧ w.cell? ⟨b, o + i, none⟩ = some (.int .i64 (E.1.sorts.getD i 0))) := fun j hj => by
    obtain ⟨b, o, r1, -, r3⟩ := hsr (by omega)
    refine ⟨b, o, r1, r3 j _ ?_⟩
    unfold sv
    rw [List.getElem?_map, List.getElem?_eq_getElem (by omega), List.getD_eq_getElem?_getD, List.getElem?_eq_getElem (by omega)]
    rfl
  obtain ⟨Z, hZ, hmk⟩ := run_makeV N hso (w.alloc (.cells #[.string E.1.name, .int .i64 E.1.start, .int .i64 E.1.params, .slice sq N E.2.2, .int .i64 E.1.result] 71))
  have HB0 : Hid (BeI w ((w.alloc (.cells #[.string E.1.name, .int .i64 E.1.start, .int .i64 E.1.params, .slice sq N E.2.2, .int .i64 E.1.result] 71)).alloc (.cells Z 52)) [.string E.1.name, .int .i64 E.1.start, .int .i64 E.1.params, .slice sq N E.2.2, .int .i64 E.1.result] E.1.sorts N 0) := by
    have bX : Below w.heap.size w (w.alloc (.cells #[.string E.1.name, .int .i64 E.1.start, .int .i64 E.1.params, .slice sq N E.2.2, .int .i64 E.1.result] 71)) := (Below.refl _ w).alloc (Nat.le_refl _) _
    have fX : Full (w.alloc (.cells #[.string E.1.name, .int .i64 E.1.start, .int .i64 E.1.params, .slice sq N E.2.2, .int .i64 E.1.result] 71)) w.heap.size 71 [.string E.1.name, .int .i64 E.1.start, .int .i64 E.1.params, .slice sq N E.2.2, .int .i64 E.1.result] := Full.new w _ _
    have zX : (w.alloc (.cells #[.string E.1.name, .int .i64 E.1.start, .int .i64 E.1.params, .slice sq N E.2.2, .int .i64 E.1.result] 71)).heap.size = w.heap.size + 1 := by simp
    generalize (w.alloc (.cells #[.string E.1.name, .int .i64 E.1.start, .int .i64 E.1.params, .slice sq N E.2.2, .int .i64 E.1.result] 71)) = X at bX fX zX ⊢
    have b2 : Below X.heap.size X (X.alloc (.cells Z 52)) := (Below.refl _ X).alloc (Nat.le_refl _) _
    have f2 := Full.new X Z 52
    rw [zX] at f2
    exact ⟨below2 bX b2, fX.next b2, ⟨Z.toList, by rw [Array.length_toList, hZ]; omega, f2⟩, by simp; omega⟩
  have HN : Hid (E.1.sorts.length = N) := hN
  clear h hsr ha hq hN hZ
  go_enter Tryz.func26, Tryz.ntmps26
  go_wp2_with fail
  generalize (w.alloc (.cells #[.string E.1.name, .int .i64 E.1.start, .int .i64 E.1.params, .slice sq N E.2.2, .int .i64 E.1.result] 71)).alloc (.cells Z 52) = Y at HB0 ⊢
  clear hmk e0 e1 e2 e3 e4 c1
  go_loopw [25] (fun v wv => ∃ j : Nat, j ≤ N ∧ v = .int .i64 (j : Int) ∧ Hid (BeI w wv [.string E.1.name, .int .i64 E.1.start, .int .i64 E.1.params, .slice sq N E.2.2, .int .i64 E.1.result] E.1.sorts N j)) (fun v _ => N - (intOf v).toNat)
  case atStart => exact ⟨0, Nat.zero_le _, rfl, HB0⟩
  case round =>
    obtain ⟨j, hj, rfl, hI⟩ := hrel
    by_cases hlt : j < N
    case neg =>
      obtain rfl : j = N := by omega
      obtain ⟨hle, hqa⟩ := HA.out
      have hth : wr.there (w.heap.size + 1) 0 (args.length * 3) := by
        obtain ⟨r, h1, h2⟩ := hI.out.sl
        refine h2.there 0 _ ?_
        rw [List.length_append, Hp.vcs_len, List.length_map, List.length_take, HN.out]
        have := HN.out
        omega
      have hcp := run_copyV wr 3 (w.heap.size + 1) j q cp args (by have := HN.out; omega) (fun h0 => by
        obtain ⟨b, o, r1, r2⟩ := hqa h0
        exact ⟨b, o, r1, range_same r2 (hI.out.bl.block b (block_lt_of_cell (r2 0 _ (List.getElem?_eq_getElem (by rw [Hp.vcs_len]; omega)))))⟩) hth
      clear hqa hth
      go_wp2_with (first
        | (at_builtin; refine wpList_cpr (by rfl) _ _ 64 (by rfl) hcp ?_)
        | fail)
      have HX : Hid (Below w.heap.size w (wr.setCells (w.heap.size + 1) 0 (vcs args)) ∧ Full (wr.setCells (w.heap.size + 1) 0 (vcs args)) w.heap.size 71 [.string E.1.name, .int .i64 E.1.start, .int .i64 E.1.params, .slice sq j E.2.2, .int .i64 E.1.result] ∧ Full (wr.setCells (w.heap.size + 1) 0 (vcs args)) (w.heap.size + 1) 52 (vcs (slotsS E.1.sorts args)) ∧ w.heap.size + 2 ≤ (wr.setCells (w.heap.size + 1) 0 (vcs args)).heap.size) := by
        obtain ⟨r, h1, h2⟩ := hI.out.sl
        have hr : r = [] := List.eq_nil_of_length_eq_zero (by omega)
        subst hr
        rw [List.append_nil, show E.1.sorts.take j = E.1.sorts from List.take_of_length_le (by rw [HN.out]; exact Nat.le_refl _)] at h2
        refine ⟨below_sets hI.out.bl (by omega) _ _, hI.out.en.other (by omega), ?_, by rw [sets_size]; exact hI.out.sz⟩
        have e1 : vcs (E.1.sorts.map zeroV) = [] ++ (vcs ((E.1.sorts.map zeroV).take args.length) ++ vcs ((E.1.sorts.map zeroV).drop args.length)) := by rw [← Hp.vcs_app, List.take_append_drop]; rfl
        rw [e1] at h2
        have h3 := Full.put (g := w.heap.size + 1) (t := 52) (vcs args) (a := []) (b := vcs ((E.1.sorts.map zeroV).take args.length)) (d := vcs ((E.1.sorts.map zeroV).drop args.length)) h2 (by rw [Hp.vcs_len, Hp.vcs_len, List.length_take, List.length_map]; omega)
        unfold slotsS
        rw [Hp.vcs_app, List.map_drop]
        exact h3
      have hsl : (slotsS E.1.sorts args).length = j := by
        unfold slotsS
        rw [List.length_append, List.length_map, List.length_drop, HN.out]
        have := HN.out
        omega
      clear hcp HB0 hle HA HSR hI hj
      generalize wr.setCells (w.heap.size + 1) 0 (vcs args) = X at HX ⊢
      obtain ⟨bX, fE, fS, zX⟩ := HX.out
      have x1 := (fE.cell 1 _ rfl).1
      have hgl : g < w.heap.size := HM.out.heap.blk.1.lt
      have c7 := (bX.cell (p := ⟨g, 7, none⟩) hgl).trans HM.out.k7
      obtain ⟨fq, fcap, hfv, -, -⟩ := rown_slice HM.out.fr
      have HFV : Hid (fv = .slice fq L.length fcap) := hfv
      rw [hfv] at c7
      obtain ⟨Y, hY⟩ : ∃ Y, X.alloc (.cells #[.int .i64 (i : Int), .int .i64 E.1.start, .slice (some ⟨w.heap.size + 1, 0, none⟩) j j, .slice none 0 0] 89) = Y := ⟨_, rfl⟩
      have bY : Below X.heap.size X Y := by rw [← hY]; exact (Below.refl _ X).alloc (Nat.le_refl _) _
      have fY : Full Y X.heap.size 89 [.int .i64 (i : Int), .int .i64 E.1.start, .slice (some ⟨w.heap.size + 1, 0, none⟩) j j, .slice none 0 0] := by rw [← hY]; exact Full.new X _ _
      have c7Y := (bY.cell (p := ⟨g, 7, none⟩) (block_lt_of_cell c7)).trans c7
      have x1Y := (bY.cell (p := ⟨w.heap.size, 1, none⟩) (block_lt_of_cell x1)).trans x1
      have bwy : Below w.heap.size w Y.drew := below2 bX bY.drew
      have fSY : Full Y.drew (w.heap.size + 1) 52 (vcs (slotsS E.1.sorts args)) := fS.next bY.drew
      have HOW : Hid (OwnR Y.drew 89 4 (.slice fq L.length fcap) L.length (L.flatMap fmc) ∧ Y.drew.rangeAt X.heap.size 0 [.int .i64 (i : Int), .int .i64 E.1.start, .slice (some ⟨w.heap.size + 1, 0, none⟩) j j, .slice none 0 0]) := ⟨by rw [← hfv]; exact rown_next HM.out.fr bwy, fun k u hu => by
        rw [Nat.zero_add]
        exact ((fY.next (Below.refl _ Y).drew).cell k u hu).1⟩
      have HO : Hid (∀ u ∈ ([.int .i64 (i : Int), .int .i64 E.1.start, .slice (some ⟨w.heap.size + 1, 0, none⟩) j j, .slice none 0 0] : List Value), u.oneCell' = true) := fun u hu => by
        simp only [List.mem_cons, List.not_mem_nil, or_false] at hu
        rcases hu with rfl | rfl | rfl | rfl <;> rfl
      have HFIN : Hid (∀ v5 w5, Hid (OwnR w5 89 4 v5 (L.length + 1) (L.flatMap fmc ++ [.int .i64 (i : Int), .int .i64 E.1.start, .slice (some ⟨w.heap.size + 1, 0, none⟩) j j, .slice none 0 0])) → Hid (Y.drew.grownBy w5 (obk (.slice fq L.length fcap)) ∧ (obk v5 = obk (.slice fq L.length fcap) ∨ obk v5 = some Y.drew.heap.size)) →
          (w5.cell? ⟨g, 7, none⟩ = some (.slice fq L.length fcap) ∧ w5.frozen? ⟨g, 7, none⟩ = false) ∧ Hid (WentM w (w5.setCell ⟨g, 7, none⟩ v5) g K { S with fs := S.fs ++ [⟨(i : Int), E.1.start, slotsS E.1.sorts args, []⟩] } L fv ov F Q)) := fun v5 w5 ho5 hg5 => by
        have hfvv := HFV.out
        rw [← hfvv] at hg5 ⊢
        have kp5 : Kp (fun x => obk fv = some x) w w5 := (Kp.of bwy).grown hg5.out.1 fun x hx => .inl hx
        have hng : obk fv ≠ some g := fun q => HM.out.nv g (.inl q) HM.out.heap.blk.2.1
        have hgb : w5.heap[g]? = w.heap[g]? := kp5.block g hgl hng
        have hv5 : ∀ b, obk v5 = some b → obk fv = some b ∨ w.heap.size ≤ b := fun b hb => by
          rcases hg5.out.2 with r | r
          · exact .inl (r ▸ hb)
          · rw [r] at hb; cases hb; exact .inr bwy.size
        have hsb : w5.heap[w.heap.size + 1]? = Y.drew.heap[w.heap.size + 1]? := hg5.out.1.block _ fSY.lt fun q => by
          have := (rown_blk HM.out.fr (w.heap.size + 1) q.symm).lt
          omega
        refine ⟨⟨(World.cell?_of_block (w := w) (a := ⟨g, 7, none⟩) hgb).trans HM.out.k7, ?_⟩, ?_⟩
        · have : w5.frozen? ⟨g, 7, none⟩ = w.frozen? ⟨g, 7, none⟩ := by unfold World.frozen?; rw [show w5.heap[(⟨g, 7, none⟩ : Addr).block]? = w.heap[(⟨g, 7, none⟩ : Addr).block]? from hgb]
          rw [this]
          exact HM.out.un 7
        · have hs5 : Full w5 (w.heap.size + 1) 52 (vcs (slotsS E.1.sorts args)) := hsb.trans fSY
          refine HM.out.more ⟨(i : Int), E.1.start, slotsS E.1.sorts args, []⟩ (.slice (some ⟨w.heap.size + 1, 0, none⟩) j j) kp5 (by rw [List.flatMap_append]; exact ho5.out) hv5 (.inl ⟨by rw [Hp.vcs_len], .inr ⟨w.heap.size + 1, j, (vcs (slotsS E.1.sorts args)).toArray, by rw [hsl], Nat.zero_le _, hs5, by rw [hsl]; exact Nat.le_refl _, by unfold maxLen; omega, by simp [Hp.vcs_len, hsl], ?_⟩⟩) (fun b hb => by
            have := obk_own hb
            cases this
            exact Nat.le_succ _) rfl
          exact List.take_of_length_le (by simp [Hp.vcs_len])
      clear HX bX fE fS zX bY fY bwy fSY hfv HFV hsl
      go_region_law (first
        | (refine stepR_app 79 89 _ 4 64 Tryz.underlying79 info_fr (by rfl) (by decide) (by decide) (by rfl) _ _ (by rfl) _ L.length (L.flatMap fmc) (by rfl) HOW.out.1 X.heap.size [.int .i64 (i : Int), .int .i64 E.1.start, .slice (some ⟨w.heap.size + 1, 0, none⟩) j j, .slice none 0 0] (by rfl) HO.out (by rfl) HOW.out.2 (by omega) ?_; intro v5 w5 ho5 hg5; obtain ⟨q5, c5, rfl, -, -⟩ := rown_slice ho5.out; obtain ⟨⟨d3, g3⟩, HTW⟩ := HFIN.out _ w5 ho5 hg5))
      all_goals
        clear HFIN HOW ho5 hg5 d3 g3
        go_end0
        exact ⟨⟨_, rfl⟩, HTW⟩
    have j0 : (0 : Int) ≤ (j : Int) := Int.natCast_nonneg _
    have j1 : (j : Int) < (N : Int) := Int.ofNat_lt.2 hlt
    have hw : IntKind.i64.wrap ((j : Int) + 1) = ((j + 1 : Nat) : Int) := by rw [IntKind.wrap_i64]; omega
    obtain ⟨b, o, eq1, a0⟩ := HSR.out j hlt
    have a1 := (hI.out.bl.cell (p := ⟨b, o + j, none⟩) (block_lt_of_cell a0)).trans a0
    have hs : E.1.sorts.getD j 0 = E.1.sorts[j]'(by rw [HN.out]; exact hlt) := by rw [List.getD_eq_getElem?_getD, List.getElem?_eq_getElem]; rfl
    rw [hs] at a1
    have HP : Hid (∀ W, BeI w W [.string E.1.name, .int .i64 E.1.start, .int .i64 E.1.params, .slice sq N E.2.2, .int .i64 E.1.result] E.1.sorts N j → BeI w (W.setCells (w.heap.size + 1) (j * 3) (vc (zeroV (E.1.sorts[j]'(by rw [HN.out]; exact hlt))))) [.string E.1.name, .int .i64 E.1.start, .int .i64 E.1.params, .slice sq N E.2.2, .int .i64 E.1.result] E.1.sorts N (j + 1) ∧ (∀ k, k < 3 → (∃ u, W.cell? ⟨w.heap.size + 1, j * 3 + k, none⟩ = some u) ∧ W.frozen? ⟨w.heap.size + 1, j * 3 + k, none⟩ = false)) := fun W hW => by
      refine ⟨hW.put hlt HN.out, fun k hk => ?_⟩
      obtain ⟨r, h1, h2⟩ := hW.sl
      have hlen : (vcs ((E.1.sorts.take j).map zeroV) ++ r).length = N * 3 := by rw [List.length_append, Hp.vcs_len, List.length_map, List.length_take, HN.out, h1]; omega
      have := h2.cell (j * 3 + k) _ (List.getElem?_eq_getElem (by omega))
      exact ⟨⟨_, this.1⟩, this.2⟩
    unfold zeroV at HP
    generalize E.1.sorts[j]'(by rw [HN.out]; exact hlt) = so at a1 HP
    subst eq1
    generalize hkk : (if 0 ≤ kindS so ∧ kindS so ≤ 4 then kindS so else 0) = kk at HP
    have HKK : Hid _ := hkk
    clear hs hkk a0
    go_wp2_with (first
      | (go_at_call 51; refine (kindOf_any so wr).mono ?_; rintro z1 w1 ⟨rfl, rfl⟩)
      | (go_at_call 50; refine (Hp.zero_any (kindS so) _).mono ?_; rintro z2 w2 ⟨rfl, hb2⟩; rw [HKK.out]; obtain ⟨HF, hc⟩ := HP.out w2 (hI.out.next hb2); replace HF : Hid _ := HF; obtain ⟨⟨u0, x0⟩, g0⟩ := hc 0 (by decide); simp only [Nat.add_zero] at x0 g0; obtain ⟨⟨u1, x1⟩, g1⟩ := hc 1 (by decide); obtain ⟨⟨u2, x2⟩, g2⟩ := hc 2 (by decide); clear hc)
      | fail)
    exact ⟨⟨j + 1, by omega, by first | rfl | (push_cast; rfl) | go_num, HF.out⟩, by simp [intOf]; omega⟩
end Go.Proofs.YtahdkffijlfmnaaGreatDoor

namespace Go.Proofs.YtahdkffijlfmnaaGreatDoor
open Go.RowKit
open Hp (V vc vcs)
def doCallS (K : Cg) (S : Ms) (n : Nat) (f : Fr) (a : Nat) : Except Int Ms :=
  if h : a < K.Es.length then
    if f.st.length < K.Es[a].1.params.toNat then .error 7
    else if fitL S.hp (f.st.drop (f.st.length - K.Es[a].1.params.toNat)) K.Es[a].1.sorts 0 = false then .error 7
    else if ((n + 1 : Nat) : Int) = K.dep then .error 3
    else .ok { S.cut n f (f.st.take (f.st.length - K.Es[a].1.params.toNat)) with fs := (S.cut n f (f.st.take (f.st.length - K.Es[a].1.params.toNat))).fs ++ [⟨(a : Int), K.Es[a].1.start, slotsS K.Es[a].1.sorts (f.st.drop (f.st.length - K.Es[a].1.params.toNat)), []⟩] }
  else .error 7
theorem Now.kp {w0 w : World} {g : Nat} {K : Cg} {S : Ms} {L0 : List Fm} {ov : Value} {F Q : Nat → Prop} {gf cap n : Nat} {m : Fm} (h : Now w0 w g K L0 ov F Q gf cap n S m) : Kp (foot L0 (.slice (some ⟨gf, 0, none⟩) (n + 1) cap) ov F) w0 w := by
  obtain ⟨_, _, k⟩ := h
  exact k.kp
theorem Now.split {w0 w : World} {g : Nat} {K : Cg} {S : Ms} {L0 : List Fm} {ov : Value} {F Q : Nat → Prop} {gf cap n : Nat} {m : Fm} (h : Now w0 w g K L0 ov F Q gf cap n S m) : ∃ L2, (∀ b, foot L2 (.slice (some ⟨gf, 0, none⟩) (n + 1) cap) ov F b → b < w.heap.size) ∧ ∀ W, Below w.heap.size w W → Now W W g K L2 ov F Q gf cap n S m ∧ ∀ w' S' m', Now W w' g K L2 ov F Q gf cap n S' m' → Now w0 w' g K L0 ov F Q gf cap n S' m' := by
  obtain ⟨L2, hT, k⟩ := h
  refine ⟨L2, fun b hb => hT.h.lt b (.inl hb), fun W b => ?_⟩
  have hTW : TopM W g K S L2 ov F Q gf cap n m := ⟨hT.h.next b, hT.hn, hT.hm, hT.hb, hT.hs⟩
  refine ⟨hTW.now, fun w' S' m' h' => ?_⟩
  obtain ⟨L3, hT3, k3⟩ := h'
  exact ⟨L3, hT3, (k.next b).trans k3⟩
theorem Now.popNo {w0 w : World} {g : Nat} {K : Cg} {S : Ms} {L0 : List Fm} {ov : Value} {F Q : Nat → Prop} {gf cap n : Nat} {m : Fm} (h : Now w0 w g K L0 ov F Q gf cap n S m) (c : Nat) (hc : m.f.st.length < c) (hm : c ≤ 1000000) :
    Calls Tryz.prog 113 #[.pointer (some ⟨gf, n * 4, none⟩), .int .i64 (c : Int)] w fun z w' => z = .returned (.tuple #[.slice none 0 0, .bool false]) ∧ Hid (Now w0 w' g K L0 ov F Q gf cap n S m) := by
  have hfc := h.fc
  obtain ⟨L, hT, k⟩ := id h
  have hrow := (hT.h.rows m (List.mem_of_getElem? hT.hm)).2
  obtain ⟨q, cp, etv, hcp, hq⟩ := rown_slice hrow
  have c3 := hfc.2.2.2.1
  rw [etv] at c3
  exact (popAll_no c3 hT.hs c hc hm).mono fun z w' r => ⟨r.1, h.next r.2⟩
theorem Now.begin {w0 w : World} {g : Nat} {K : Cg} {S : Ms} {L0 : List Fm} {ov : Value} {F Q : Nat → Prop} {gf cap n : Nat} {m : Fm} (h : Now w0 w g K L0 ov F Q gf cap n S m) {i : Nat} (hi : i < K.Es.length) (hso : (K.Es[i]).1.sorts.length ≤ 1000000) (hn : n ≤ 100000)
    {q : Option Addr} {cp : Nat} {args : List V} (ha : args.length ≤ (K.Es[i]).1.sorts.length) (hq : 0 < args.length → ∃ b o, q = some ⟨b, o, none⟩ ∧ w.rangeAt b o (vcs args)) :
    Calls Tryz.prog 26 #[.pointer (some ⟨g, 0, none⟩), .int .i64 (i : Int), .slice q args.length cp] w fun z w' => (∃ u, z = .returned u) ∧ Hid (WentM w0 w' g K { S with fs := S.fs ++ [⟨(i : Int), (K.Es[i]).1.start, slotsS (K.Es[i]).1.sorts args, []⟩] } L0 (.slice (some ⟨gf, 0, none⟩) (n + 1) cap) ov F Q) := by
  obtain ⟨L, hT, k⟩ := h
  refine (begin_any hT.h hi hso (by have := hT.hn; omega) ha hq).mono fun z w' r => ⟨r.1, ?_⟩
  exact WentM.after k.ft k.kp r.2.out
theorem Now.fitAll {w0 w : World} {g : Nat} {K : Cg} {S : Ms} {L0 : List Fm} {ov : Value} {F Q : Nat → Prop} {gf cap n : Nat} {m : Fm} (h : Now w0 w g K L0 ov F Q gf cap n S m) {i : Nat} (hi : i < K.Es.length) (hso : (K.Es[i]).1.sorts.length ≤ 1000000)
    {q : Option Addr} {cp : Nat} {args : List V} (ha : args.length ≤ (K.Es[i]).1.sorts.length) (hq : 0 < args.length → ∃ b o, q = some ⟨b, o, none⟩ ∧ w.rangeAt b o (vcs args)) (hv : ∀ v ∈ args, v.2.2.size ≤ 9223372036854775807) :
    Calls Tryz.prog 65 #[.pointer (some ⟨g, 0, none⟩), .slice q args.length cp, .slice (K.Es[i]).2.1 (K.Es[i]).1.sorts.length (K.Es[i]).2.2] w fun z w' => z = .returned (.bool (fitL S.hp args (K.Es[i]).1.sorts 0)) ∧ Below w.heap.size w w' := by
  obtain ⟨L, hM, -, -, -⟩ := h.mach
  refine fitAll_any ha hso (fun j hj => ?_) (fun j hj => ?_) fun w' b v hvm s => mfits_any (hM.next b) v s (hv v hvm)
  · obtain ⟨b, o, r1, r2⟩ := hq (by omega)
    have r3 := Hp.vcs_get r2 j hj
    exact ⟨b, o, r1, r3 0 _ rfl, r3 1 _ rfl, r3 2 _ rfl⟩
  · obtain ⟨b, o, r1, -, r3⟩ := hM.code.sr K.Es[i] (List.getElem_mem hi) (by omega)
    refine ⟨b, o, r1, r3 j _ ?_⟩
    unfold sv
    rw [List.getElem?_map, List.getElem?_eq_getElem hj]
    rfl
theorem callPopAll (a b : Value) (w : World) : (callFunc 113 #[a, b]).run Tryz.prog w = .ok (.enter 113 #[a, b]) w := by kernel_rfl
set_option maxRecDepth 100000 in
set_option maxHeartbeats 4000000 in
theorem doCall_any {w : World} {g : Nat} {K : Cg} {S : Ms} {L : List Fm} {ov : Value} {F Q : Nat → Prop} {gf cap n : Nat} {m : Fm} (h : Now w w g K L ov F Q gf cap n S m) (a : Nat) (hn : n ≤ 100000) (hv : ∀ v ∈ m.f.st, v.2.2.size ≤ 9223372036854775807)
    (hp : ∀ E ∈ K.Es, 0 ≤ E.1.params ∧ E.1.params ≤ 8 ∧ E.1.params ≤ (E.1.sorts.length : Int) ∧ E.1.sorts.length ≤ 250) :
    Calls Tryz.prog 84 #[.pointer (some ⟨g, 0, none⟩), .int .i64 (a : Int)] w fun z w' => Hid (DoR w w' g K L (.slice (some ⟨gf, 0, none⟩) (n + 1) cap) ov F Q gf (n * 4) z (doCallS K S n m.f a)) := by
  have H0 : Hid (Now w w g K L ov F Q gf cap n S m) := h
  unfold doCallS
  have a0 : (0 : Int) ≤ (a : Int) := by omega
  obtain ⟨L1, hM, hn1, hm1, hb1⟩ := h.mach
  have c1 := hM.k1
  rw [← hM.code.len] at c1
  obtain ⟨ne, hne⟩ : ∃ ne, K.Es.length = ne := ⟨_, rfl⟩
  by_cases ha : a < K.Es.length
  · rw [dif_pos ha]
    obtain ⟨ge, oe, he, -, e0, e1, e2, e3, e4⟩ := hM.code.ent a ha
    obtain ⟨p0, p8, pl, psz⟩ := hp _ (List.getElem_mem ha)
    have HF : Hid (∀ w' (m' : Fm) S' q cp (args : List V), Now w w' g K L ov F Q gf cap n S' m' → S'.hp = S.hp → args.length ≤ (K.Es[a]).1.sorts.length → (0 < args.length → ∃ b o, q = some ⟨b, o, none⟩ ∧ w'.rangeAt b o (vcs args)) → (∀ v ∈ args, v.2.2.size ≤ 9223372036854775807) → (Calls Tryz.prog 65 #[.pointer (some ⟨g, 0, none⟩), .slice q args.length cp, .slice (K.Es[a]).2.1 (K.Es[a]).1.sorts.length (K.Es[a]).2.2] w' fun z w'' => z = .returned (.bool (fitL S.hp args (K.Es[a]).1.sorts 0)) ∧ Below w'.heap.size w' w'') ∧ (Calls Tryz.prog 26 #[.pointer (some ⟨g, 0, none⟩), .int .i64 (a : Int), .slice q args.length cp] w' fun z w'' => (∃ u, z = .returned u) ∧ Hid (WentM w w'' g K { S' with fs := S'.fs ++ [⟨(a : Int), (K.Es[a]).1.start, slotsS (K.Es[a]).1.sorts args, []⟩] } L (.slice (some ⟨gf, 0, none⟩) (n + 1) cap) ov F Q))) := fun w' m' S' q cp args h' e1 e2 e3 e4 => ⟨by rw [← e1]; exact h'.fitAll ha (by omega) e2 e3 e4, h'.begin ha (by omega) hn e2 e3⟩
    rw [he, hne] at c1
    rw [hne] at ha
    obtain ⟨E, hEE⟩ : ∃ E, K.Es[a]'(by omega) = E := ⟨_, rfl⟩
    rw [hEE] at e0 e1 e2 e3 e4 p0 p8 pl psz HF ⊢
    obtain ⟨p, hpp⟩ : ∃ p : Nat, E.1.params = (p : Int) := ⟨E.1.params.toNat, by omega⟩
    rw [hpp] at e2 p8 pl p0
    rw [show E.1.params.toNat = p by omega]
    have i1 : (a : Int) < (ne : Int) := by omega
    have i2 : ¬ ((ne : Int) ≤ (a : Int)) := by omega
    obtain ⟨N, hN⟩ : ∃ N, E.1.sorts.length = N := ⟨_, rfl⟩
    obtain ⟨sq, hsq⟩ : ∃ sq, E.2.1 = sq := ⟨_, rfl⟩
    rw [hN, hsq] at e3
    have HV : Hid (∀ v ∈ m.f.st, v.2.2.size ≤ 9223372036854775807) := hv
    have HPL : Hid ((p : Int) ≤ (E.1.sorts.length : Int) ∧ p ≤ 8) := ⟨pl, by omega⟩
    obtain ⟨L2, hlt2, hsp⟩ := h.split
    obtain ⟨X, hX⟩ : ∃ X, w.alloc (.cells #[.string E.1.name, .int .i64 E.1.start, .int .i64 (p : Int), .slice sq N E.2.2, .int .i64 E.1.result] 71) = X := ⟨_, rfl⟩
    have bX : Below w.heap.size w X.drew := by rw [← hX]; exact ((Below.refl _ w).alloc (Nat.le_refl _) _).drew
    have fX : Full X.drew w.heap.size 71 [.string E.1.name, .int .i64 E.1.start, .int .i64 (p : Int), .slice sq N E.2.2, .int .i64 E.1.result] := by rw [← hX]; exact (Full.new w _ _).next (Below.refl _ _).drew
    obtain ⟨hN2, hback⟩ := hsp X.drew bX
    have HN2 : Hid (Now X.drew X.drew g K L2 ov F Q gf cap n S m) := hN2
    have HBK : Hid _ := hback
    have HFU : Hid (∀ w' S' m', Now X.drew w' g K L2 ov F Q gf cap n S' m' → Full w' w.heap.size 71 [.string E.1.name, .int .i64 E.1.start, .int .i64 (p : Int), .slice sq N E.2.2, .int .i64 E.1.result]) := fun w' S' m' h' => (h'.kp.block _ fX.lt fun q => by have := hlt2 _ q; omega).trans fX
    have q2 := (fX.cell 2 _ rfl).1
    have q2' : X.cell? ⟨w.heap.size, 2, none⟩ = some (.int .i64 (p : Int)) := q2
    have dT := Now.top_v hN2
    have HDP : Hid (K.dep = K.dep) := rfl
    clear hM h hv hp hn hsp hN2 hback hlt2 bX fX
    by_cases hlt : m.f.st.length < p
    · rw [if_pos hlt]
      have HLT : Hid _ := hlt
      clear hlt
      go_enter Tryz.func84, Tryz.ntmps84
      go_upto_region 4 with fail
      go_region_law (first
        | (refine step_call (by rfl) 28 [.tmp 25] _ [.pointer (some ⟨g, 0, none⟩)] (by rfl) (by rfl) (callTop _) (fun v w' => v = .pointer (some ⟨gf, n * 4, none⟩) ∧ Hid (Now X.drew w' g K L2 ov F Q gf cap n S m)) dT ?_; rintro v5 w5 ⟨rfl, H5⟩; have q5 := ((HFU.out w5 _ _ H5.out).cell 2 _ rfl).1)
        | (refine step_call (by rfl) 113 [.tmp 26, .tmp 28] _ [.pointer (some ⟨gf, n * 4, none⟩), .int .i64 (p : Int)] (by rfl) (by rfl) (callPopAll _ _) (fun v w' => v = .tuple #[.slice none 0 0, .bool false] ∧ Hid (Now X.drew w' g K L2 ov F Q gf cap n S m)) ((Now.popNo H5.out p HLT.out (by have := HPL.out.2; omega)).mono fun _ _ q => ⟨_, q.1, rfl, q.2⟩) ?_; rintro v6 w6 ⟨rfl, H6⟩))
      all_goals
        clear q2 q2' q5 dT
        have H7 : Hid _ := HBK.out _ _ _ H6.out
        go_wp2
        go_ret
        exact H7.out.err 7
    rw [if_neg hlt]
    have HLT : Hid _ := hlt
    obtain ⟨l, hl⟩ : ∃ l, m.f.st.length - p = l := ⟨_, rfl⟩
    rw [hl]
    have HL : Hid (l + p = m.f.st.length) := by show _ = _; omega
    have hdl : (m.f.st.drop l).length = p := by rw [List.length_drop]; omega
    have HDL : Hid _ := hdl
    clear hlt hl hdl
    obtain ⟨dep, hdep⟩ : ∃ dep, K.dep = dep := ⟨_, rfl⟩
    rw [hdep]
    have HDE : Hid (K.dep = dep) := hdep
    clear hdep
    cases hfit : fitL S.hp (m.f.st.drop l) E.1.sorts 0 with
    | false =>
      have HFT : Hid (fitL S.hp (m.f.st.drop l) E.1.sorts 0 = false) := hfit
      rw [if_pos rfl]
      clear hfit
      go_enter Tryz.func84, Tryz.ntmps84
      go_upto_region 4 with fail
      go_region_law (first
        | (refine step_call (by rfl) 28 [.tmp 25] _ [.pointer (some ⟨g, 0, none⟩)] (by rfl) (by rfl) (callTop _) (fun v w' => v = .pointer (some ⟨gf, n * 4, none⟩) ∧ Hid (Now X.drew w' g K L2 ov F Q gf cap n S m)) dT ?_; rintro v5 w5 ⟨rfl, H5⟩; have q5 := ((HFU.out w5 _ _ H5.out).cell 2 _ rfl).1)
        | (refine step_call (by rfl) 113 [.tmp 26, .tmp 28] _ [.pointer (some ⟨gf, n * 4, none⟩), .int .i64 (p : Int)] (by rfl) (by rfl) (callPopAll _ _) (fun v w' => ∃ q' cp, v = .tuple #[.slice q' p cp, .bool true] ∧ Hid ((0 < p → ∃ gs o, q' = some ⟨gs, o, none⟩ ∧ w'.rangeAt gs o (vcs (m.f.st.drop l)) ∧ Blk w' gs 52 0) ∧ ∃ tv', Now X.drew w' g K L2 ov F Q gf cap n (S.cut n m.f (m.f.st.take l)) (m.st' tv' (m.f.st.take l)))) ((Now.popAll H5.out p l HL.out).mono fun z w' q => by (obtain ⟨q', cp, r1, r2⟩ := q; exact ⟨_, r1, q', cp, rfl, r2⟩)) ?_; rintro v6 w6 ⟨q', cp, rfl, H6⟩))
      all_goals
        clear q2 q2' q5 dT
        obtain ⟨hrow, tv', hN6⟩ := H6.out
        have q3 := ((HFU.out w6 _ _ hN6).cell 3 _ rfl).1
        have H7 : Hid (Now w w6 g K L ov F Q gf cap n (S.cut n m.f (m.f.st.take l)) (m.st' tv' (m.f.st.take l))) := HBK.out _ _ _ hN6
        have HCB : Hid (∀ W, Below w6.heap.size w6 W → (Calls Tryz.prog 65 #[.pointer (some ⟨g, 0, none⟩), .slice q' p cp, .slice sq N E.2.2] W fun z w'' => z = .returned (.bool false) ∧ Below W.heap.size W w'') ∧ (Calls Tryz.prog 26 #[.pointer (some ⟨g, 0, none⟩), .int .i64 (a : Int), .slice q' p cp] W fun z w'' => (∃ u, z = .returned u) ∧ Hid (WentM w w'' g K { S.cut n m.f (m.f.st.take l) with fs := (S.cut n m.f (m.f.st.take l)).fs ++ [⟨(a : Int), E.1.start, slotsS E.1.sorts (m.f.st.drop l), []⟩] } L (.slice (some ⟨gf, 0, none⟩) (n + 1) cap) ov F Q)) ∧ W.cell? ⟨g, 7, none⟩ = some (.slice (some ⟨gf, 0, none⟩) (n + 1) cap) ∧ W.cell? ⟨g, 5, none⟩ = some (.int .i64 dep) ∧ Now w W g K L ov F Q gf cap n (S.cut n m.f (m.f.st.take l)) (m.st' tv' (m.f.st.take l))) := fun W bW => by
          have hNW := H7.out.next bW
          have hdl := HDL.out
          have := HF.out W _ _ q' cp (m.f.st.drop l) hNW rfl (by rw [hdl]; have := HPL.out.1; omega) (fun h0 => by
            obtain ⟨gs, o, r1, r2, -⟩ := hrow (by omega)
            refine ⟨gs, o, r1, range_same r2 (bW.block gs (block_lt_of_cell (r2 0 _ (List.getElem?_eq_getElem (by rw [Hp.vcs_len]; omega)))))⟩) (fun v hv => HV.out v (List.mem_of_mem_drop hv))
          rw [hdl, hsq, hN, HFT.out] at this
          obtain ⟨L9, hM9, -, -, -⟩ := hNW.mach
          exact ⟨this.1, this.2, hM9.k7, by rw [← HDE.out]; exact hM9.k5, hNW⟩
        clear H6 hN6 hrow
        have dF := (HCB.out w6 (Below.refl _ _)).1
        go_wp2_with (first
          | (go_at_call 65; refine dF.mono ?_; rintro z8 w8 ⟨rfl, hb8⟩)
          | fail)
        go_ret
        exact (H7.out.next hb8).err 7
    | true =>
      have HFT : Hid (fitL S.hp (m.f.st.drop l) E.1.sorts 0 = true) := hfit
      rw [if_neg (by decide)]
      clear hfit
      obtain ⟨n1, hn1⟩ : ∃ n1, n + 1 = n1 := ⟨_, rfl⟩
      have HN1 : Hid _ := hn1
      by_cases hd : ((n + 1 : Nat) : Int) = dep
      · rw [if_pos hd]
        rw [hn1] at hd
        have k1 : ((n1 : Int) == dep) = true := by rw [beq_iff_eq]; exact hd
        clear hn1
        go_enter Tryz.func84, Tryz.ntmps84
        go_upto_region 4 with fail
        go_region_law (first
          | (refine step_call (by rfl) 28 [.tmp 25] _ [.pointer (some ⟨g, 0, none⟩)] (by rfl) (by rfl) (callTop _) (fun v w' => v = .pointer (some ⟨gf, n * 4, none⟩) ∧ Hid (Now X.drew w' g K L2 ov F Q gf cap n S m)) dT ?_; rintro v5 w5 ⟨rfl, H5⟩; have q5 := ((HFU.out w5 _ _ H5.out).cell 2 _ rfl).1)
          | (refine step_call (by rfl) 113 [.tmp 26, .tmp 28] _ [.pointer (some ⟨gf, n * 4, none⟩), .int .i64 (p : Int)] (by rfl) (by rfl) (callPopAll _ _) (fun v w' => ∃ q' cp, v = .tuple #[.slice q' p cp, .bool true] ∧ Hid ((0 < p → ∃ gs o, q' = some ⟨gs, o, none⟩ ∧ w'.rangeAt gs o (vcs (m.f.st.drop l)) ∧ Blk w' gs 52 0) ∧ ∃ tv', Now X.drew w' g K L2 ov F Q gf cap n (S.cut n m.f (m.f.st.take l)) (m.st' tv' (m.f.st.take l)))) ((Now.popAll H5.out p l HL.out).mono fun z w' q => by (obtain ⟨q', cp, r1, r2⟩ := q; exact ⟨_, r1, q', cp, rfl, r2⟩)) ?_; rintro v6 w6 ⟨q', cp, rfl, H6⟩))
        all_goals
          clear q2 q2' q5 dT
          obtain ⟨hrow, tv', hN6⟩ := H6.out
          have q3 := ((HFU.out w6 _ _ hN6).cell 3 _ rfl).1
          have H7 : Hid (Now w w6 g K L ov F Q gf cap n (S.cut n m.f (m.f.st.take l)) (m.st' tv' (m.f.st.take l))) := HBK.out _ _ _ hN6
          have HCB : Hid (∀ W, Below w6.heap.size w6 W → (Calls Tryz.prog 65 #[.pointer (some ⟨g, 0, none⟩), .slice q' p cp, .slice sq N E.2.2] W fun z w'' => z = .returned (.bool true) ∧ Below W.heap.size W w'') ∧ (Calls Tryz.prog 26 #[.pointer (some ⟨g, 0, none⟩), .int .i64 (a : Int), .slice q' p cp] W fun z w'' => (∃ u, z = .returned u) ∧ Hid (WentM w w'' g K { S.cut n m.f (m.f.st.take l) with fs := (S.cut n m.f (m.f.st.take l)).fs ++ [⟨(a : Int), E.1.start, slotsS E.1.sorts (m.f.st.drop l), []⟩] } L (.slice (some ⟨gf, 0, none⟩) (n + 1) cap) ov F Q)) ∧ W.cell? ⟨g, 7, none⟩ = some (.slice (some ⟨gf, 0, none⟩) n1 cap) ∧ W.cell? ⟨g, 5, none⟩ = some (.int .i64 dep) ∧ Now w W g K L ov F Q gf cap n (S.cut n m.f (m.f.st.take l)) (m.st' tv' (m.f.st.take l))) := fun W bW => by
            have hNW := H7.out.next bW
            have hdl := HDL.out
            have := HF.out W _ _ q' cp (m.f.st.drop l) hNW rfl (by rw [hdl]; have := HPL.out.1; omega) (fun h0 => by
              obtain ⟨gs, o, r1, r2, -⟩ := hrow (by omega)
              refine ⟨gs, o, r1, range_same r2 (bW.block gs (block_lt_of_cell (r2 0 _ (List.getElem?_eq_getElem (by rw [Hp.vcs_len]; omega)))))⟩) (fun v hv => HV.out v (List.mem_of_mem_drop hv))
            rw [hdl, hsq, hN, HFT.out] at this
            obtain ⟨L9, hM9, -, -, -⟩ := hNW.mach
            exact ⟨this.1, this.2, by rw [← HN1.out]; exact hM9.k7, by rw [← HDE.out]; exact hM9.k5, hNW⟩
          clear H6 hN6 hrow
          have dF := (HCB.out w6 (Below.refl _ _)).1
          go_wp2_with (first
            | (go_at_call 65; refine dF.mono ?_; rintro z8 w8 ⟨rfl, hb8⟩; obtain ⟨-, -, c7, c5, -⟩ := HCB.out w8 hb8; clear dF)
            | fail)
          have y7 := cell_regrown c7
          have y5 := cell_regrown c5
          refine wp_region_quiet_below (by kernel_rfl) (by kernel_rfl) ?_
          repeat (first | go_big_quiet_step (first | fail) | quiet_step (first | fail))
          refine wpQuiet_nil ?_
          intro _ hw'
          obtain ⟨⟨dq, osq⟩, hw''⟩ := hw'
          subst hw''
          have hY := below_regrown w8 dq osq
          first | (change Exit.then _ _ Exit.normal _ (Sort.grow (redrawn w8 dq) osq)) | skip
          generalize Sort.grow (redrawn w8 dq) osq = Y at hY ⊢
          clear y7 y5 c7 c5
          go_wp2
          go_ret
          exact (HCB.out Y (below2 hb8 hY)).2.2.2.2.err 3
      · rw [if_neg hd]
        rw [hn1] at hd
        have k1 : ((n1 : Int) == dep) = false := by rw [beq_eq_false_iff_ne]; exact hd
        clear hn1
        go_enter Tryz.func84, Tryz.ntmps84
        go_upto_region 4 with fail
        go_region_law (first
          | (refine step_call (by rfl) 28 [.tmp 25] _ [.pointer (some ⟨g, 0, none⟩)] (by rfl) (by rfl) (callTop _) (fun v w' => v = .pointer (some ⟨gf, n * 4, none⟩) ∧ Hid (Now X.drew w' g K L2 ov F Q gf cap n S m)) dT ?_; rintro v5 w5 ⟨rfl, H5⟩; have q5 := ((HFU.out w5 _ _ H5.out).cell 2 _ rfl).1)
          | (refine step_call (by rfl) 113 [.tmp 26, .tmp 28] _ [.pointer (some ⟨gf, n * 4, none⟩), .int .i64 (p : Int)] (by rfl) (by rfl) (callPopAll _ _) (fun v w' => ∃ q' cp, v = .tuple #[.slice q' p cp, .bool true] ∧ Hid ((0 < p → ∃ gs o, q' = some ⟨gs, o, none⟩ ∧ w'.rangeAt gs o (vcs (m.f.st.drop l)) ∧ Blk w' gs 52 0) ∧ ∃ tv', Now X.drew w' g K L2 ov F Q gf cap n (S.cut n m.f (m.f.st.take l)) (m.st' tv' (m.f.st.take l)))) ((Now.popAll H5.out p l HL.out).mono fun z w' q => by (obtain ⟨q', cp, r1, r2⟩ := q; exact ⟨_, r1, q', cp, rfl, r2⟩)) ?_; rintro v6 w6 ⟨q', cp, rfl, H6⟩))
        all_goals
          clear q2 q2' q5 dT
          obtain ⟨hrow, tv', hN6⟩ := H6.out
          have q3 := ((HFU.out w6 _ _ hN6).cell 3 _ rfl).1
          have H7 : Hid (Now w w6 g K L ov F Q gf cap n (S.cut n m.f (m.f.st.take l)) (m.st' tv' (m.f.st.take l))) := HBK.out _ _ _ hN6
          have HCB : Hid (∀ W, Below w6.heap.size w6 W → (Calls Tryz.prog 65 #[.pointer (some ⟨g, 0, none⟩), .slice q' p cp, .slice sq N E.2.2] W fun z w'' => z = .returned (.bool true) ∧ Below W.heap.size W w'') ∧ (Calls Tryz.prog 26 #[.pointer (some ⟨g, 0, none⟩), .int .i64 (a : Int), .slice q' p cp] W fun z w'' => (∃ u, z = .returned u) ∧ Hid (WentM w w'' g K { S.cut n m.f (m.f.st.take l) with fs := (S.cut n m.f (m.f.st.take l)).fs ++ [⟨(a : Int), E.1.start, slotsS E.1.sorts (m.f.st.drop l), []⟩] } L (.slice (some ⟨gf, 0, none⟩) (n + 1) cap) ov F Q)) ∧ W.cell? ⟨g, 7, none⟩ = some (.slice (some ⟨gf, 0, none⟩) n1 cap) ∧ W.cell? ⟨g, 5, none⟩ = some (.int .i64 dep) ∧ Now w W g K L ov F Q gf cap n (S.cut n m.f (m.f.st.take l)) (m.st' tv' (m.f.st.take l))) := fun W bW => by
            have hNW := H7.out.next bW
            have hdl := HDL.out
            have := HF.out W _ _ q' cp (m.f.st.drop l) hNW rfl (by rw [hdl]; have := HPL.out.1; omega) (fun h0 => by
              obtain ⟨gs, o, r1, r2, -⟩ := hrow (by omega)
              refine ⟨gs, o, r1, range_same r2 (bW.block gs (block_lt_of_cell (r2 0 _ (List.getElem?_eq_getElem (by rw [Hp.vcs_len]; omega)))))⟩) (fun v hv => HV.out v (List.mem_of_mem_drop hv))
            rw [hdl, hsq, hN, HFT.out] at this
            obtain ⟨L9, hM9, -, -, -⟩ := hNW.mach
            exact ⟨this.1, this.2, by rw [← HN1.out]; exact hM9.k7, by rw [← HDE.out]; exact hM9.k5, hNW⟩
          clear H6 hN6 hrow
          have dF := (HCB.out w6 (Below.refl _ _)).1
          go_wp2_with (first
            | (go_at_call 65; refine dF.mono ?_; rintro z8 w8 ⟨rfl, hb8⟩; obtain ⟨-, -, c7, c5, -⟩ := HCB.out w8 hb8; clear dF)
            | fail)
          have y7 := cell_regrown c7
          have y5 := cell_regrown c5
          refine wp_region_quiet_below (by kernel_rfl) (by kernel_rfl) ?_
          repeat (first | go_big_quiet_step (first | fail) | quiet_step (first | fail))
          refine wpQuiet_nil ?_
          intro _ hw'
          obtain ⟨⟨dq, osq⟩, hw''⟩ := hw'
          subst hw''
          have hY := below_regrown w8 dq osq
          first | (change Exit.then _ _ Exit.normal _ (Sort.grow (redrawn w8 dq) osq)) | skip
          generalize Sort.grow (redrawn w8 dq) osq = Y at hY ⊢
          clear y7 y5 c7 c5
          obtain ⟨-, dB, -⟩ := HCB.out Y (below2 hb8 hY)
          go_wp2_with (first
            | (go_at_call 26; refine dB.mono ?_; rintro z9 w9 ⟨⟨u9, rfl⟩, H9⟩)
            | fail)
          go_ret
          exact ⟨rfl, H9.out⟩
  · rw [dif_neg ha]
    have i2 : ((ne : Int) ≤ (a : Int)) := by omega
    rw [hne] at c1
    clear hM h
    go_enter Tryz.func84, Tryz.ntmps84
    go_wp2
    go_ret
    exact H0.out.err 7
end Go.Proofs.YtahdkffijlfmnaaGreatDoor
