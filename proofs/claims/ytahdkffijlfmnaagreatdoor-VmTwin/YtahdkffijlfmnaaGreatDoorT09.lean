import Derived.Laws.MakeOwn
import Derived.OwnWalk
import Derived.Maps.AppendAt
import Derived.WalkMore
import Derived.Lib.ConvBytes
import Derived.Lib.AppendStr
import Derived.Laws.IdiomStrings
import Derived.Lib.SmallJoins
import Derived.Test.YtahdkffijlfmnaaGreatDoorT08
namespace Go.Proofs.YtahdkffijlfmnaaGreatDoor.Hp
open Go.RowKit
def limS (n : Int) : Nat := if n < 0 then 0 else if 100000 < n then 100000 else n.toNat
theorem limS_le (n : Int) : limS n ≤ 100000 := by
  unfold limS
  split
  · omega
  · split <;> omega
theorem limS_min (n : Int) : ((limS n : Nat) : Int) = min (max n 0) 100000 := by
  unfold limS
  split
  · omega
  · split <;> omega
theorem info37 : (Tryz.prog.info? 52).map (fun i => (i.zero, i.size, i.bytes)) = some (some (.agg #[.int .i64 0, .int .i64 0, .string e0]), 3, 32) := by kernel_rfl
theorem run_makeV (M : Nat) (hM : M ≤ 100000) : ∃ Z : Array Value, Z.size = M * 3 ∧ ∀ w : World, (Instr.makeSlice 64 (.int .i64 (M : Int)) (.int .i64 (M : Int))).run Tryz.prog w = .ok (.slice (some ⟨w.heap.size, 0, none⟩) M M) (w.alloc (.cells Z 52)) := by
  obtain ⟨i, hq, hz, hi, hb⟩ := info_parts info37
  refine ⟨_, size_madeCells (Value.agg #[.int .i64 0, .int .i64 0, .string e0]).cells (M * 3), fun w => ?_⟩
  have := run_make (P := Tryz.prog) w 64 52 i _ Tryz.underlying64 hq hz .i64 .i64 (M : Int) (M : Int) (by omega) (by omega) (by rw [hb]; omega) (by omega)
  rw [Int.toNat_natCast, hi] at this
  exact this
theorem add_zero' (a : Addr) : a.add 0 = a := by simp [Addr.add]
set_option maxRecDepth 100000 in
theorem slA (a : Option Addr) (r n : Nat) (h : n ≤ r) : ∀ wx : World, (Instr.slice 64 (.slice a r r) none (some (.int .i64 (n : Int))) (some (.int .i64 (n : Int)))).run Tryz.prog wx = .ok (.slice a n n) wx := by
  intro wx
  have h0 : (0 : Int) ≤ (n : Int) := by omega
  have h1 : (n : Int) ≤ (r : Int) := by omega
  cases a <;> simp [go_sem, Tryz.underlying64, h0, h1, add_zero']
set_option maxRecDepth 100000 in
theorem slB (a : Option Addr) (r n : Nat) (h : n ≤ r) : ∀ wx : World, (Instr.slice 64 (.slice a r r) (some (.int .i64 (n : Int))) none none).run Tryz.prog wx = .ok (.slice (if r = n then a else a.map (·.add (n * 3))) (r - n) (r - n)) wx := by
  intro wx
  have h0 : (0 : Int) ≤ (n : Int) := by omega
  have h1 : (n : Int) ≤ (r : Int) := by omega
  by_cases e : r = n
  · simp [go_sem, Tryz.underlying64, h0, e]
  · simp [go_sem, Tryz.underlying64, h0, h1, e]
set_option maxHeartbeats 400000 in
theorem new_any (n : Int) (w : World) : Calls Tryz.prog 25 #[.int .i64 n] w fun e w' => e = .returned (.pointer (some ⟨w.heap.size, 0, none⟩)) ∧ HeapOf w' (hz w.heap.size) (limS n) [] (fun b => b = w.heap.size) ∧ Below w.heap.size w w' := by
  have key : ∀ l : Nat, l ≤ 100000 → HeapOf (w.alloc (.cells #[.int .i64 (l : Int), .int .i64 0, .slice none 0 0, .slice none 0 0] 76)) (hz w.heap.size) l [] (fun b => b = w.heap.size) := fun l hl => by
    have hn := World.alloc_heap_new w (.cells #[.int .i64 (l : Int), .int .i64 0, .slice none 0 0, .slice none 0 0] 76)
    refine ⟨[], none, 0, 0, 0, .slice none 0 0, rfl, ?_⟩
    exact {
      blk := ⟨_, hn, by simp [hz]⟩
      c0 := by unfold World.cell? hz; simp only; rw [hn]; rfl
      c1 := by unfold World.cell? hz; simp only; rw [hn]; rfl
      c2 := by unfold World.cell? hz; simp only; rw [hn]; rfl
      c3 := by unfold World.cell? hz; simp only; rw [hn]; rfl
      arrs := World.ownsRow_nil _ _ _ _
      els := fun a ha => by cases ha
      room := fun h => by omega
      sep := List.Pairwise.nil
      sepr := fun a ha => by cases ha
      fp := rfl
      fa := fun g hg => by cases hg
      flt := fun g hg => by subst hg; simp
      le := Nat.zero_le _
      top := hl
      small := Nat.zero_le _
      ok := fun a ha => by cases ha
      tn := by show 76 ≠ 117 ∧ 76 ≠ 52 ∧ 0 + 4 ≤ 4; decide
      rs := fun x hx => by cases hx }
  have B0 : ∀ o : Obj, Below w.heap.size w (w.alloc o) := fun o => (Below.refl _ w).alloc (Nat.le_refl _) _
  have hk := key (limS n) (limS_le n)
  rw [limS_min] at hk
  generalize limS n = L at hk ⊢
  clear key
  go_enter Tryz.func25, Tryz.ntmps25
  go_wp2
  go_ret
  exact ⟨rfl, hk, B0 _⟩
theorem HeapG.roomed {w : World} {p : Hpt} {lim : Nat} {As : List Ar} {rq : Option Addr} {rn rg ro : Nat} {av : Value} {F : Nat → Prop} {u : Nat × Nat} (h : HeapG w p lim As rq rn rg ro av F u) (q : Option Addr) (r g o : Nat) (F' : Nat → Prop) (hF : ∀ b, F b → F' b) (hl : ∀ b, F' b → b < w.heap.size)
    (hr : 0 < r → q = some ⟨g, o, none⟩ ∧ Blk w g 52 (o + r * 3) ∧ F' g) (hs : ∀ a ∈ As, a.els ≠ [] → 0 < r → a.g ≠ g ∨ a.o + a.els.length * 3 ≤ o) (hr1 : r ≤ 100000) :
    HeapG (w.setCell ⟨p.b, p.o + 2, none⟩ (.slice q r r)) p lim As q r g o av F' u := by
  have hk : ∀ k, k ≠ p.b → (w.setCell ⟨p.b, p.o + 2, none⟩ (.slice q r r)).heap[k]? = w.heap[k]? := fun k hk => set_heap (a := ⟨p.b, p.o + 2, none⟩) hk
  have ho : ∀ i, i ≠ p.o + 2 → (w.setCell ⟨p.b, p.o + 2, none⟩ (.slice q r r)).cell? ⟨p.b, i, none⟩ = w.cell? ⟨p.b, i, none⟩ := fun i hi => World.cell?_setCell_other _ _ _ _ (fun e => hi (by have := congrArg Addr.off e; simp at this; omega))
  exact {
    blk := h.blk.setCell _ _
    c0 := (ho p.o (by omega)).trans h.c0
    c1 := (ho (p.o + 1) (by omega)).trans h.c1
    c2 := World.cell?_setCell_same' _ _ _ (by rw [h.c2]; rfl)
    c3 := (ho (p.o + 3) (by omega)).trans h.c3
    arrs := own_same h.arrs fun g hg => hk g (fun e => own_ne h.arrs h.blk h.tn.1 (e ▸ hg))
    els := fun a ha hn => by
      obtain ⟨h1, h2, h3, h4⟩ := h.els a ha hn
      exact ⟨h1, h2.setCell _ _, range_same h3 (hk _ (h2.ne h.blk (Ne.symm h.tn.2.1))), hF _ h4⟩
    room := fun hn => by obtain ⟨h1, h2, h3⟩ := hr hn; exact ⟨h1, h2.setCell _ _, h3⟩
    sep := h.sep
    sepr := hs
    fp := hF _ h.fp
    fa := fun g hg => hF _ (h.fa g hg)
    flt := fun g hg => by rw [set_size]; exact hl g hg
    le := h.le
    top := h.top
    small := hr1
    ok := h.ok
    tn := h.tn
    rs := fun x hx => ⟨(h.rs x hx).1, (ho x.1 (by have := (h.rs x hx).1; omega)).trans (h.rs x hx).2⟩ }
theorem HeapG.cut {w : World} {p : Hpt} {lim : Nat} {As : List Ar} {rq : Option Addr} {rn rg ro : Nat} {av : Value} {F : Nat → Prop} {u : Nat × Nat} (h : HeapG w p lim As rq rn rg ro av F u) (n : Nat) (hn : n ≤ rn) :
    HeapG (w.setCell ⟨p.b, p.o + 2, none⟩ (.slice (if rn = n then rq else rq.map (·.add (n * 3))) (rn - n) (rn - n))) p lim As (if rn = n then rq else rq.map (·.add (n * 3))) (rn - n) rg (ro + n * 3) av F u := by
  refine h.roomed _ _ _ _ F (fun _ q => q) h.flt (fun hr => ?_) (fun a ha hne hr => ?_) (by have := h.small; omega)
  · obtain ⟨h1, h2, h3⟩ := h.room (by omega)
    rw [if_neg (by omega), h1]
    refine ⟨?_, h2.le (by omega), h3⟩
    rw [Option.map_some, Addr.add_mid]
  · rcases h.sepr a ha hne (by omega) with q | q
    · exact .inl q
    · exact .inr (by omega)
structure Took (w w' : World) (p : Hpt) (lim : Nat) (As : List Ar) (av : Value) (F : Nat → Prop) (n : Nat) (q : Option Addr) (g o : Nat) (rq : Option Addr) (rn rg ro : Nat) (F' : Nat → Prop) (u : Nat × Nat) : Prop where
  heap : HeapG w' p lim As rq rn rg ro av F' u
  q : 0 < n → q = some ⟨g, o, none⟩ ∧ Blk w' g 52 (o + n * 3) ∧ F' g
  sep : ∀ a ∈ As, a.els ≠ [] → 0 < n → a.g ≠ g ∨ a.o + a.els.length * 3 ≤ o
  sepr : 0 < n → 0 < rn → g ≠ rg ∨ o + n * 3 ≤ ro
  kp : Kp F w w'
  sub : ∀ b, F' b → F b ∨ w.heap.size ≤ b
  sup : ∀ b, F b → F' b
theorem HeapG.took {w0 w : World} {p : Hpt} {lim : Nat} {As : List Ar} {rq : Option Addr} {rn rg ro : Nat} {av : Value} {F F0 : Nat → Prop} {u : Nat × Nat} (h : HeapG w p lim As rq rn rg ro av F u) (n : Nat) (hn : n ≤ rn) (k : Kp F0 w0 w) (hp : F0 p.b) (hs : ∀ b, F b → F0 b ∨ w0.heap.size ≤ b) (hu : ∀ b, F0 b → F b) :
    Took w0 (w.setCell ⟨p.b, p.o + 2, none⟩ (.slice (if rn = n then rq else rq.map (·.add (n * 3))) (rn - n) (rn - n))) p lim As av F0 n rq rg ro (if rn = n then rq else rq.map (·.add (n * 3))) (rn - n) rg (ro + n * 3) F u where
  heap := h.cut n hn
  q h0 := by obtain ⟨h1, h2, h3⟩ := h.room (by omega); exact ⟨h1, (h2.le (by omega)).setCell _ _, h3⟩
  sep a ha hne h0 := h.sepr a ha hne (by omega)
  sepr _ _ := .inr (Nat.le_refl _)
  kp := k.setCell (p := ⟨p.b, p.o + 2, none⟩) (.inl hp) _
  sub := hs
  sup := hu
set_option maxRecDepth 100000 in
set_option maxHeartbeats 1000000 in
theorem take_any {w : World} {p : Hpt} {lim : Nat} {As : List Ar} {rq : Option Addr} {rn rg ro : Nat} {av : Value} {F : Nat → Prop} {u : Nat × Nat} (h : HeapG w p lim As rq rn rg ro av F u) (n : Nat) (hn : n ≤ 100000) :
    Calls Tryz.prog 57 #[.pointer (some ⟨p.b, p.o, none⟩), .int .i64 (n : Int)] w fun e w' => ∃ q, e = .returned (.slice q n n) ∧ Hid (∃ g o rq' rn' rg' ro' F', Took w w' p lim As av F n q g o rq' rn' rg' ro' F' u) := by
  have h2 := h.c2
  have f2 := h.blk.unfrozen (p.o + 2)
  have hsm := h.small
  by_cases hle : n ≤ rn
  · have s1 := slA rq rn n hle
    have s2 := slB rq rn n hle
    have i1 : ¬ (rn : Int) < (n : Int) := by omega
    have HT : Hid _ := h.took n hle (Kp.refl F w) h.fp (fun b hb => .inl hb) (fun b hb => hb)
    clear h
    generalize (if rn = n then rq else rq.map (·.add (n * 3))) = q2 at s2 HT
    go_enter Tryz.func57, Tryz.ntmps57
    go_wp2
    go_ret
    exact ⟨_, rfl, _, _, _, _, _, _, _, HT.out⟩
  · obtain ⟨M, hM⟩ : ∃ M : Nat, M = max n 256 := ⟨_, rfl⟩
    obtain ⟨Z, hZ, hmk⟩ := run_makeV M (by omega)
    have s1 := slA (some ⟨w.heap.size, 0, none⟩) M n (by omega)
    have s2 := slB (some ⟨w.heap.size, 0, none⟩) M n (by omega)
    have i1 : (rn : Int) < (n : Int) := by omega
    have em : max (n : Int) 256 = (M : Int) := by omega
    have ha := h.next ((Below.refl _ w).alloc (Nat.le_refl _) (.cells Z 52))
    have hr := ha.roomed (some ⟨w.heap.size, 0, none⟩) M w.heap.size 0 (fun b => F b ∨ b = w.heap.size) (fun b hb => .inl hb) (fun b hb => by rcases hb with q | rfl; exact ha.flt b q; simp) (fun _ => ⟨rfl, Blk.new w Z _ (by omega), .inr rfl⟩) (fun a hm hne _ => .inl (by have := h.flt _ (h.els a hm hne).2.2.2; omega)) (by omega)
    have HT : Hid _ := hr.took n (by omega) (((Kp.refl F w).alloc (.cells Z 52)).setCell (p := ⟨p.b, p.o + 2, none⟩) (.inl h.fp) (.slice (some ⟨w.heap.size, 0, none⟩) M M)) h.fp (fun b hb => by rcases hb with q | rfl; exact .inl q; exact .inr (Nat.le_refl _)) (fun b hb => .inl hb)
    have g2 := hr.c2
    have g3 := hr.blk.unfrozen (p.o + 2)
    have k2 := ha.c2
    have k3 := ha.blk.unfrozen (p.o + 2)
    clear h ha hr hM hZ
    generalize (if M = n then some (⟨w.heap.size, 0, none⟩ : Addr) else (some (⟨w.heap.size, 0, none⟩ : Addr)).map (·.add (n * 3))) = q2 at s2 HT
    go_enter Tryz.func57, Tryz.ntmps57
    go_wp2
    go_ret
    exact ⟨_, rfl, _, _, _, _, _, _, _, HT.out⟩
end Go.Proofs.YtahdkffijlfmnaaGreatDoor.Hp

namespace Go.Proofs.YtahdkffijlfmnaaGreatDoor.Hp
open Go.RowKit
theorem sets_app (b : Nat) : ∀ (xs ys : List Value) (o : Nat) (w : World), (w.setCells b o xs).setCells b (o + xs.length) ys = w.setCells b o (xs ++ ys)
  | [], _, _, _ => rfl
  | x :: xs, ys, o, w => by
    show ((w.setCell ⟨b, o, none⟩ x).setCells b (o + 1) xs).setCells b (o + (xs.length + 1)) ys = _
    rw [show o + (xs.length + 1) = o + 1 + xs.length by omega, sets_app b xs ys (o + 1)]
    rfl
theorem wpList_app {P : Program} (t e : TypeId) (z : Value) (size bytes : Nat) (ht : P.underlying t = some (.slice e)) (hinf : (P.info? e).map (fun i => (i.zero, i.size, i.bytes)) = some (some z, size, bytes)) (hzs : z.cells.size = size) (hsz : 0 < size) (hby : bytes ≤ 100)
    {w : World} {ops : Array Oper} {rest : List Oper} {o : Oper} {a : Act} {Q : Exit → Act → World → Prop} (hgd : o.guard = none) (s x : Operand)
    (ho : o.op = .call { callee := .builtin .append, args := #[s, x], argTypes := #[t, t] })
    (base : Nat) (v : Value) (n : Nat) (xs : List Value) (hs : a.eval s = v) (hown : w.ownsRow base e size v n xs) (C : Array Value) (hC : C.size = size) (h1 : ∀ u ∈ C.toList, u.oneCell' = true) (hx : a.eval x = .slice (some ⟨w.heap.size, 0, none⟩) 1 1)
    (h40 : n + 1 ≤ 1000000000) (hbase : base ≤ w.heap.size)
    (h : ∀ v' w', Hid (w'.ownsRow base e size v' (n + 1) (xs ++ C.toList)) → Hid ((w.alloc (.cells C e)).grownBy w' v.ownBlock ∧ (v'.ownBlock = v.ownBlock ∨ v'.ownBlock = some (w.heap.size + 1))) → wpList P ops Q rest (a.put o.dst v') w') : wpList P ops Q (o :: rest) a (w.alloc (.cells C e)) := by
  obtain ⟨i0, hi, hz0, hz1, hz2⟩ := info_parts hinf
  have ho2 := World.ownsRow.alloc hown (.cells C e)
  have hb : (n + 1) * bytes ≤ 140737488355328 := Nat.le_trans (Nat.mul_le_mul h40 hby) (by decide)
  obtain ⟨v', w', hr, h2, h3, _, h4⟩ := run_append_own_at (P := P) (w.alloc (.cells C e)) base t o.type e i0 z size bytes ht hi hz0 hz1 hz2 hzs hsz v n xs ho2 ⟨w.heap.size, 0, none⟩ 1 1 C.toList (by rw [Nat.one_mul]; simpa using hC)
    (fun j u hu => by rw [Addr.add_mid, Nat.zero_add]; simp only [World.cell?, heap_alloc_new w _]; simpa using hu) h1 (by unfold maxLen; omega) hb (by simp; omega)
  rw [World.size_alloc] at h4
  refine wpList_plain hgd fun K hK => ?_
  unfold Oper.wp execOp
  simp only [ho, resolve, invoke, builtin, Sem.run_bind, Sem.run_pure, Result.andThen_ok, List.map_toArray, List.map_cons, List.map_nil, hs, hx, hr]
  exact hK _ _ (h v' w' h2 ⟨h3, h4⟩)
theorem info82 : (Tryz.prog.info? 117).map (fun i => (i.zero, i.size, i.bytes)) = some (some (.agg #[.int .i64 0, .slice none 0 0]), 2, 32) := by kernel_rfl
theorem acs_app (a b : List Ar) : acs (a ++ b) = acs a ++ acs b := List.flatMap_append
theorem abs_app (a b : List Ar) : absA (a ++ b) = absA a ++ absA b := List.map_append
theorem may_mono {v : V} {k : Int} {n m : Nat} (h : mayS v k n = true) (hm : n ≤ m) : mayS v k m = true := by
  unfold mayS at h ⊢
  simp only [Bool.and_eq_true, Bool.or_eq_true, decide_eq_true_eq] at h ⊢
  refine ⟨h.1, ?_⟩
  rcases h.2 with q | q
  · exact .inl q
  · exact .inr (by omega)
theorem may_zero {k : Int} (h : 1 ≤ k ∧ k ≤ 4) (n : Nat) : mayS (k, 0, e0) k n = true := by
  have : k = 1 ∨ k = 2 ∨ k = 3 ∨ k = 4 := by omega
  unfold mayS okV
  simp only [e0_list]
  rcases this with rfl | rfl | rfl | rfl <;> first | rfl | decide
theorem HeapG.wrote {w : World} {p : Hpt} {lim : Nat} {As : List Ar} {rq : Option Addr} {rn rg ro : Nat} {av : Value} {F : Nat → Prop} {u : Nat × Nat} (h : HeapG w p lim As rq rn rg ro av F u) (g o n : Nat) (vs : List Value) (hv : vs.length ≤ n * 3) (hb : 0 < n → Blk w g 52 (o + n * 3)) (hs : ∀ a ∈ As, a.els ≠ [] → 0 < n → a.g ≠ g ∨ a.o + a.els.length * 3 ≤ o) : HeapG (w.setCells g o vs) p lim As rq rn rg ro av F u := by
  rcases Nat.eq_zero_or_pos n with rfl | hn
  · rw [List.length_eq_zero_iff.1 (by omega : vs.length = 0)]
    exact h
  have hb := hb hn
  have hk : ∀ k, k ≠ g → (w.setCells g o vs).heap[k]? = w.heap[k]? := fun k hk => sets_heap hk _ _ _
  have hp : p.b ≠ g := h.blk.ne hb h.tn.2.1
  have hc := fun o' => World.cell?_of_block (w := w) (w' := w.setCells g o vs) (a := ⟨p.b, o', none⟩) (hk p.b hp)
  exact {
    blk := h.blk.setCells _ _ _
    c0 := (hc p.o).trans h.c0
    c1 := (hc (p.o + 1)).trans h.c1
    c2 := (hc (p.o + 2)).trans h.c2
    c3 := (hc (p.o + 3)).trans h.c3
    arrs := own_same h.arrs fun g' hg => hk g' (fun e => own_ne h.arrs hb (by decide) (e ▸ hg))
    els := fun a ha hne => by
      obtain ⟨h1, h2, h3, h4⟩ := h.els a ha hne
      refine ⟨h1, h2.setCells _ _ _, World.rangeAt_setCells_apart h3 _ _ _ ?_, h4⟩
      rw [vcs_len]
      rcases hs a ha hne hn with q | q
      · exact .inl q
      · exact .inr (.inl q)
    room := fun hn => by obtain ⟨h1, h2, h3⟩ := h.room hn; exact ⟨h1, h2.setCells _ _ _, h3⟩
    sep := h.sep
    sepr := h.sepr
    fp := h.fp
    fa := h.fa
    flt := fun g hg => by rw [sets_size]; exact h.flt g hg
    le := h.le
    top := h.top
    small := h.small
    ok := h.ok
    tn := h.tn
    rs := fun x hx => ⟨(h.rs x hx).1, (hc x.1).trans (h.rs x hx).2⟩ }
theorem HeapG.grow {w w3 : World} {p : Hpt} {lim : Nat} {As : List Ar} {rq : Option Addr} {rn rg ro : Nat} {av v' : Value} {F : Nat → Prop} {u : Nat × Nat} (h : HeapG w p lim As rq rn rg ro av F u) (y : Ar) (C : Obj)
    (hy : y.els ≠ [] → y.q = some ⟨y.g, y.o, none⟩ ∧ Blk w y.g 52 (y.o + y.els.length * 3) ∧ w.rangeAt y.g y.o (vcs y.els) ∧ F y.g)
    (hs : ∀ a ∈ As, a.els ≠ [] → y.els ≠ [] → a.g ≠ y.g ∨ a.o + a.els.length * 3 ≤ y.o) (hr : y.els ≠ [] → 0 < rn → y.g ≠ rg ∨ y.o + y.els.length * 3 ≤ ro)
    (hle : usedS (absA (As ++ [y])) ≤ lim) (hok : (1 ≤ y.kind ∧ y.kind ≤ 4) ∧ ∀ v ∈ y.els, mayS v y.kind u.2 = true)
    (hown : w3.ownsRow 0 117 2 v' (As.length + 1) (acs As ++ ac y)) (hg : (w.alloc C).grownBy w3 av.ownBlock) :
    HeapG (w3.setCell ⟨p.b, p.o + 3, none⟩ v') p lim (As ++ [y]) rq rn rg ro v' (fun b => F b ∨ v'.ownBlock = some b) u := by
  have hp : av.ownBlock ≠ some p.b := own_ne h.arrs h.blk h.tn.1
  have h3 : ∀ k, k < w.heap.size → av.ownBlock ≠ some k → w3.heap[k]? = w.heap[k]? := fun k hk hn => (hg.block k (by simp; omega) (fun e => hn e.symm)).trans (Below.heap_alloc w C k hk)
  have hp3 : w3.heap[p.b]? = w.heap[p.b]? := h3 p.b h.blk.lt hp
  have hpb := h.blk.same hp3
  have hc3 := fun o' => World.cell?_of_block (w := w) (w' := w3) (a := ⟨p.b, o', none⟩) hp3
  have ho : ∀ k, k ≠ p.b → (w3.setCell ⟨p.b, p.o + 3, none⟩ v').heap[k]? = w3.heap[k]? := fun k hk => set_heap (a := ⟨p.b, p.o + 3, none⟩) hk
  have hc : ∀ i, i ≠ p.o + 3 → (w3.setCell ⟨p.b, p.o + 3, none⟩ v').cell? ⟨p.b, i, none⟩ = w.cell? ⟨p.b, i, none⟩ := fun i h3 => by
    rw [World.cell?_setCell_other _ _ _ _ (fun e => h3 (by have := congrArg Addr.off e; simp at this; omega))]
    exact hc3 i
  have hvp : ∀ g, v'.ownBlock = some g → g ≠ p.b := fun g hg e => own_ne hown hpb h.tn.1 (e ▸ hg)
  have hel : ∀ {g n}, Blk w g 52 n → (w3.setCell ⟨p.b, p.o + 3, none⟩ v').heap[g]? = w.heap[g]? := fun {g n} hb => (ho g (hb.ne h.blk (Ne.symm h.tn.2.1))).trans (h3 g hb.lt (own_ne h.arrs hb (by decide)))
  have hall : ∀ a ∈ As ++ [y], a.els ≠ [] → a.q = some ⟨a.g, a.o, none⟩ ∧ Blk w a.g 52 (a.o + a.els.length * 3) ∧ w.rangeAt a.g a.o (vcs a.els) ∧ F a.g := fun a ha => by
    rcases List.mem_append.1 ha with q | q
    · exact h.els a q
    · obtain rfl := List.mem_singleton.1 q
      exact hy
  have hsz : w.heap.size ≤ w3.heap.size := Nat.le_trans (by simp) hg.size
  exact {
    blk := hpb.setCell _ _
    c0 := (hc p.o (by omega)).trans h.c0
    c1 := (hc (p.o + 1) (by omega)).trans h.c1
    c2 := (hc (p.o + 2) (by omega)).trans h.c2
    c3 := World.cell?_setCell_same' _ _ _ (by rw [hc3 (p.o + 3), h.c3]; rfl)
    arrs := by
      rw [acs_app, List.length_append]
      refine own_same (w := w3) ?_ fun g hg => ho g (hvp g hg)
      simpa [acs] using hown
    els := fun a ha hne => by
      obtain ⟨h1, h2, h3, h4⟩ := hall a ha hne
      exact ⟨h1, h2.same (hel h2), range_same h3 (hel h2), .inl h4⟩
    room := fun hn => by obtain ⟨h1, h2, h3⟩ := h.room hn; exact ⟨h1, h2.same (hel h2), .inl h3⟩
    sep := by
      rw [List.pairwise_append]
      refine ⟨h.sep, List.pairwise_singleton _ _, fun a ha b hb => ?_⟩
      obtain rfl := List.mem_singleton.1 hb
      exact hs a ha
    sepr := fun a ha hne hn => by
      rcases List.mem_append.1 ha with q | q
      · exact h.sepr a q hne hn
      · obtain rfl := List.mem_singleton.1 q
        exact hr hne hn
    fp := .inl h.fp
    fa := fun g hg => .inr hg
    flt := fun g hg => by
      rw [set_size]
      rcases hg with q | q
      · exact Nat.lt_of_lt_of_le (h.flt g q) hsz
      · exact (own_blk hown g q).lt
    le := hle
    top := h.top
    small := h.small
    ok := fun a ha => by
      rcases List.mem_append.1 ha with q | q
      · exact h.ok a q
      · obtain rfl := List.mem_singleton.1 q
        exact hok
    tn := h.tn
    rs := fun x hx => ⟨(h.rs x hx).1, (hc x.1 (by have := (h.rs x hx).1; omega)).trans (h.rs x hx).2⟩ }
theorem HeapG.setU {w : World} {p : Hpt} {lim : Nat} {As : List Ar} {rq : Option Addr} {rn rg ro : Nat} {av : Value} {F : Nat → Prop} {u : Nat × Nat} (h : HeapG w p lim As rq rn rg ro av F u) (u' : Nat) : HeapG (w.setCell ⟨p.b, p.o + 1, none⟩ (.int .i64 (u' : Int))) p lim As rq rn rg ro av F (u', u.2) := by
  have ho : ∀ k, k ≠ p.b → (w.setCell ⟨p.b, p.o + 1, none⟩ (.int .i64 (u' : Int))).heap[k]? = w.heap[k]? := fun k hk => set_heap (a := ⟨p.b, p.o + 1, none⟩) hk
  have hc : ∀ i, i ≠ p.o + 1 → (w.setCell ⟨p.b, p.o + 1, none⟩ (.int .i64 (u' : Int))).cell? ⟨p.b, i, none⟩ = w.cell? ⟨p.b, i, none⟩ := fun i h1 => World.cell?_setCell_other _ _ _ _ (fun e => h1 (by have := congrArg Addr.off e; simp at this; omega))
  exact {
    blk := h.blk.setCell _ _
    c0 := (hc p.o (by omega)).trans h.c0
    c1 := World.cell?_setCell_same' _ _ _ (by rw [h.c1]; rfl)
    c2 := (hc (p.o + 2) (by omega)).trans h.c2
    c3 := (hc (p.o + 3) (by omega)).trans h.c3
    arrs := own_same h.arrs fun g hg => ho g ((own_blk h.arrs g hg).ne h.blk (Ne.symm h.tn.1))
    els := fun a ha hne => by
      obtain ⟨h1, h2, h3, h4⟩ := h.els a ha hne
      exact ⟨h1, h2.setCell _ _, range_same h3 (ho _ (h2.ne h.blk (Ne.symm h.tn.2.1))), h4⟩
    room := fun hn => by obtain ⟨h1, h2, h3⟩ := h.room hn; exact ⟨h1, h2.setCell _ _, h3⟩
    sep := h.sep
    sepr := h.sepr
    fp := h.fp
    fa := h.fa
    flt := fun g hg => by rw [set_size]; exact h.flt g hg
    le := h.le
    top := h.top
    small := h.small
    ok := h.ok
    tn := h.tn
    rs := fun x hx => ⟨(h.rs x hx).1, (hc x.1 (by have := (h.rs x hx).1; omega)).trans (h.rs x hx).2⟩ }
theorem HeapG.made {w w3 : World} {p : Hpt} {lim : Nat} {As : List Ar} {rq : Option Addr} {rn rg ro : Nat} {av v' : Value} {F : Nat → Prop} {c : Nat} (h : HeapG w p lim As rq rn rg ro av F (usedS (absA As), c)) (y : Ar) (C : Obj)
    (hy : y.els ≠ [] → y.q = some ⟨y.g, y.o, none⟩ ∧ Blk w y.g 52 (y.o + y.els.length * 3) ∧ w.rangeAt y.g y.o (vcs y.els) ∧ F y.g)
    (hs : ∀ a ∈ As, a.els ≠ [] → y.els ≠ [] → a.g ≠ y.g ∨ a.o + a.els.length * 3 ≤ y.o) (hr : y.els ≠ [] → 0 < rn → y.g ≠ rg ∨ y.o + y.els.length * 3 ≤ ro)
    (hk : 1 ≤ y.kind ∧ y.kind ≤ 4) (hok : ∀ v ∈ y.els, mayS v y.kind c = true) (hle : usedS (absA As) + (y.els.length + 1) ≤ lim)
    (hown : w3.ownsRow 0 117 2 v' (As.length + 1) (acs As ++ ac y)) (hg : (w.alloc C).grownBy w3 av.ownBlock) :
    HeapG ((w3.setCell ⟨p.b, p.o + 3, none⟩ v').setCell ⟨p.b, p.o + 1, none⟩ (.int .i64 ((usedS (absA As) + (y.els.length + 1) : Nat) : Int))) p lim (As ++ [y]) rq rn rg ro v' (fun b => F b ∨ v'.ownBlock = some b) (usedS (absA (As ++ [y])), c) := by
  have hu : usedS (absA (As ++ [y])) = usedS (absA As) + (y.els.length + 1) := by rw [abs_app, used_app]; rfl
  have q := (h.grow y C hy hs hr (by rw [hu]; exact hle) ⟨hk, hok⟩ hown hg).setU (usedS (absA As) + (y.els.length + 1))
  rw [hu]
  exact q
end Go.Proofs.YtahdkffijlfmnaaGreatDoor.Hp

namespace Go.Proofs.YtahdkffijlfmnaaGreatDoor.Hp
open Go.RowKit
def Zt (w : World) : Prop := ∀ k : Nat, k ≤ 4 → w.cell? ⟨4, k * 3, none⟩ = some (.int .i64 (k : Int)) ∧ w.cell? ⟨4, k * 3 + 1, none⟩ = some (.int .i64 0) ∧ w.cell? ⟨4, k * 3 + 2, none⟩ = some (.string e0)
theorem Zt.same {w w' : World} (h : Zt w) (e : w'.heap[4]? = w.heap[4]?) : Zt w' := fun k hk => by
  have c := fun o => World.cell?_of_block (w := w) (w' := w') (a := ⟨4, o, none⟩) e
  exact ⟨(c _).trans (h k hk).1, (c _).trans (h k hk).2.1, (c _).trans (h k hk).2.2⟩
theorem Zt.pos {w : World} (h : Zt w) : 4 < w.heap.size := World.block_lt_of_cell? w _ (h 0 (by decide)).1
def makeH (A : Hp) (lim : Nat) (kind n : Int) : Hp × V × Int :=
  if kind < 1 ∨ 4 < kind then (A, zv, 7) else if n < 0 then (A, zv, 2) else if (lim : Int) - (usedS A : Int) ≤ n then (A, zv, 4) else (A ++ [(kind, List.replicate n.toNat (kind, 0, e0))], (4, (A.length : Int) + 1, e0), 0)
theorem _root_.Go.Proofs.YtahdkffijlfmnaaGreatDoor.Box3.same {W W' : World} {B : Nat} {k n : Int} {s : ByteArray} (h : Box3 W B k n s) (e : W'.heap[B]? = W.heap[B]?) : Box3 W' B k n s := by
  have c := fun o => World.cell?_of_block (w := W) (w' := W') (a := ⟨B, o, none⟩) e
  have f := fun o => World.frozen?_of_block (w := W) (w' := W') (a := ⟨B, o, none⟩) e
  exact ⟨⟨⟨(c 0).trans h.1.1.1, (f 0).trans h.1.1.2⟩, ⟨(c 1).trans h.1.2.1, (f 1).trans h.1.2.2⟩⟩, (c 2).trans h.2.1, (f 2).trans h.2.2⟩
theorem put3_heap {W : World} {B k : Nat} {a b : Int} {s : ByteArray} (h : k ≠ B) : (put3 W B a b s).heap[k]? = W.heap[k]? := sets_heap (B := B) h [.int .i64 a, .int .i64 b, .string s] 0 W
theorem put3_size (W : World) (B : Nat) (a b : Int) (s : ByteArray) : (put3 W B a b s).heap.size = W.heap.size := sets_size B [.int .i64 a, .int .i64 b, .string s] 0 W
theorem kp_put3 {F : Nat → Prop} {a w : World} (h : Kp F a w) {B : Nat} (hB : F B ∨ a.heap.size ≤ B) (x y : Int) (s : ByteArray) : Kp F a (put3 w B x y s) := Kp.setCells hB [.int .i64 x, .int .i64 y, .string s] 0 h
theorem size37 : (Tryz.prog.info? 52).map (·.size) = some 3 := by kernel_rfl
theorem repl_succ (i : Nat) (z : V) : vcs (List.replicate i z) ++ vc z = vcs (List.replicate (i + 1) z) := by
  rw [List.replicate_succ', vcs_app]
  simp [vcs]
set_option maxRecDepth 100000 in
set_option maxHeartbeats 4000000 in
theorem make_at {w : World} {p : Hpt} {lim : Nat} {As : List Ar} {rq : Option Addr} {rn rg ro : Nat} {av : Value} {F : Nat → Prop} {c : Nat} (h : HeapG w p lim As rq rn rg ro av F (usedS (absA As), c)) (hz : Zt w) (hF : ¬ F 4) (kind n : Int) :
    Calls Tryz.prog 115 #[.pointer (some ⟨p.b, p.o, none⟩), .int .i64 kind, .int .i64 n] w fun e w' => e = .returned (.tuple #[.agg (vc (makeH (absA As) lim kind n).2.1).toArray, .int .i64 (makeH (absA As) lim kind n).2.2]) ∧ Hid (∃ F', HeapC w' p lim (makeH (absA As) lim kind n).1 c F' ∧ Kp (fun b => F b ∧ (makeH (absA As) lim kind n).2.2 = 0) w w' ∧ ∀ b, F' b → F b ∨ w.heap.size ≤ b) := by
  have b1 := Box3.new w 0 0 e0 52
  have B0 : Below w.heap.size w (w.alloc (.cells #[.int .i64 0, .int .i64 0, .string e0] 52)) := (Below.refl _ w).alloc (Nat.le_refl _) _
  have z0 : (w.alloc (.cells #[.int .i64 0, .int .i64 0, .string e0] 52)).heap.size = w.heap.size + 1 := by simp
  have HM : Hid (makeH (absA As) lim kind n = if kind < 1 ∨ 4 < kind then (absA As, zv, 7) else if n < 0 then (absA As, zv, 2) else if (lim : Int) - (usedS (absA As) : Int) ≤ n then (absA As, zv, 4) else (absA As ++ [(kind, List.replicate n.toNat (kind, 0, e0))], (4, (As.length : Int) + 1, e0), 0)) := by
    show makeH (absA As) lim kind n = _
    unfold makeH
    rw [abs_len]
  generalize makeH (absA As) lim kind n = R at HM ⊢
  have HW : Hid (HeapG w p lim As rq rn rg ro av F (usedS (absA As), c)) := h
  -- what a refusal leaves
  have HNO : Hid (∀ (Y : World) (t : Int), R = (absA As, zv, t) → Below w.heap.size w Y → Box3 Y w.heap.size 0 0 e0 → Box3 (put3 Y w.heap.size 0 0 e0) w.heap.size 0 0 e0 ∧ (.returned (.tuple #[.agg #[.int .i64 0, .int .i64 0, .string e0], .int .i64 t]) : Ending) = .returned (.tuple #[.agg (vc R.2.1).toArray, .int .i64 R.2.2]) ∧ Hid (∃ F', HeapC (put3 Y w.heap.size 0 0 e0) p lim R.1 c F' ∧ Kp (fun b => F b ∧ R.2.2 = 0) w (put3 Y w.heap.size 0 0 e0) ∧ ∀ b, F' b → F b ∨ w.heap.size ≤ b)) := fun Y t hR hB hb => by
    refine ⟨hb.put 0 0 e0, by rw [hR]; rfl, F, ?_, kp_put3 (Kp.of hB) (.inr (Nat.le_refl _)) _ _ _, fun b hb => .inl hb⟩
    rw [hR]
    exact ⟨_, _, _, _, _, _, rfl, h.next (below_put3 hB (Nat.le_refl _) _ _ _)⟩
  have HN2 : Hid (∀ (Y : World) (t : Int), R = (absA As, zv, t) → Below w.heap.size w Y → (.returned (.tuple #[.agg #[.int .i64 0, .int .i64 0, .string e0], .int .i64 t]) : Ending) = .returned (.tuple #[.agg (vc R.2.1).toArray, .int .i64 R.2.2]) ∧ Hid (∃ F', HeapC Y p lim R.1 c F' ∧ Kp (fun b => F b ∧ R.2.2 = 0) w Y ∧ ∀ b, F' b → F b ∨ w.heap.size ≤ b)) := fun Y t hR hB => by
    refine ⟨by rw [hR]; rfl, F, ?_, Kp.of hB, fun b hb => .inl hb⟩
    rw [hR]
    exact ⟨_, _, _, _, _, _, rfl, h.next hB⟩
  by_cases hk : kind < 1 ∨ 4 < kind
  · rw [if_pos hk] at HM
    obtain ⟨n2, n3⟩ := HN2.out _ 7 HM.out B0
    obtain ⟨⟨⟨y0, g0⟩, ⟨y1, g1⟩⟩, y2, g2⟩ := id b1
    clear h hz HM HW HNO HN2
    have HK : Hid (kind < 1 ∨ 4 < kind) := hk
    by_cases hk1 : kind < 1
    · clear hk HK
      go_enter Tryz.func115, Tryz.ntmps115
      go_wp2
      exact bodyPost_ret (v := .tuple #[.agg #[.int .i64 0, .int .i64 0, .string e0], .int .i64 7]) (by simp [results, Tryz.results115, go_sem, y0, y1, y2]) rfl ⟨n2, n3⟩
    · have hk4 : 4 < kind := by rcases HK.out with q | q; exact absurd q hk1; exact q
      clear hk HK
      go_enter Tryz.func115, Tryz.ntmps115
      go_wp2
      exact bodyPost_ret (v := .tuple #[.agg #[.int .i64 0, .int .i64 0, .string e0], .int .i64 7]) (by simp [results, Tryz.results115, go_sem, y0, y1, y2]) rfl ⟨n2, n3⟩
  rw [if_neg hk] at HM
  have hk1 : ¬ kind < 1 := fun q => hk (.inl q)
  have hk4 : ¬ 4 < kind := fun q => hk (.inr q)
  clear hk
  by_cases hn : n < 0
  · rw [if_pos hn] at HM
    obtain ⟨n2, n3⟩ := HN2.out _ 2 HM.out B0
    obtain ⟨⟨⟨y0, g0⟩, ⟨y1, g1⟩⟩, y2, g2⟩ := id b1
    clear h hz HM HW HNO HN2
    go_enter Tryz.func115, Tryz.ntmps115
    go_wp2
    exact bodyPost_ret (v := .tuple #[.agg #[.int .i64 0, .int .i64 0, .string e0], .int .i64 2]) (by simp [results, Tryz.results115, go_sem, y0, y1, y2]) rfl ⟨n2, n3⟩
  rw [if_neg hn] at HM
  obtain ⟨k, rfl⟩ : ∃ k : Nat, kind = (k : Int) := ⟨kind.toNat, by omega⟩
  obtain ⟨m, rfl⟩ : ∃ m : Nat, n = (m : Int) := ⟨n.toNat, by omega⟩
  have hu1 := h.le
  have hu2 := h.top
  have hsub : IntKind.i64.wrap ((lim : Int) - (usedS (absA As) : Int)) = (lim : Int) - (usedS (absA As) : Int) := by rw [IntKind.wrap_i64]; omega
  have hsub2 : wrap64 ((lim : Int) - (usedS (absA As) : Int)) = (lim : Int) - (usedS (absA As) : Int) := by unfold wrap64; omega
  go_enter Tryz.func115, Tryz.ntmps115
  go_wp2_with fail
  generalize w.alloc (.cells #[.int .i64 0, .int .i64 0, .string e0] 52) = X at b1 B0 z0 ⊢
  replace h := h.next B0
  have y0 := cell_regrown h.c0
  have y1 := cell_regrown h.c1
  refine wp_region_quiet_below (by kernel_rfl) (by kernel_rfl) ?_
  repeat (first | go_big_quiet_step (first | fail) | quiet_step (first | fail))
  refine wpQuiet_nil ?_
  intro _ hw'
  obtain ⟨⟨dq, osq⟩, hw''⟩ := hw'
  subst hw''
  have hY := below_regrown X dq osq
  change Exit.then _ _ Exit.normal _ (Sort.grow (redrawn X dq) osq)
  generalize Sort.grow (redrawn X dq) osq = Y at hY ⊢
  clear y0 y1
  replace h := h.next hY
  replace b1 := b1.below hY (by omega)
  replace B0 := below2 B0 hY
  have z1 : w.heap.size + 1 ≤ Y.heap.size := by have := hY.size; omega
  clear hY z0
  by_cases hr : (lim : Int) - (usedS (absA As) : Int) ≤ (m : Int)
  · rw [if_pos hr] at HM
    obtain ⟨n1, n2, n3⟩ := HNO.out _ 4 HM.out B0 b1
    obtain ⟨⟨⟨y0, g0⟩, ⟨y1, g1⟩⟩, y2, g2⟩ := id b1
    clear h hz HM HW HNO hsub hsub2
    obtain ⟨⟨⟨p0, -⟩, ⟨p1, -⟩⟩, p2, -⟩ := n1
    go_wp2
    change bodyPost Tryz.prog _ _ _ _ (put3 _ w.heap.size _ _ _)
    exact bodyPost_ret (v := .tuple #[.agg #[.int .i64 0, .int .i64 0, .string e0], .int .i64 4]) (by simp [results, Tryz.results115, go_sem, p0, p1, p2]) rfl ⟨n2, n3⟩
  rw [if_neg hr, Int.toNat_natCast] at HM
  have hm : usedS (absA As) + (m + 1) ≤ lim := by omega
  have hz1 : Zt Y := hz.same (B0.block 4 hz.pos)
  have hF1 : ∀ b, F b → b < w.heap.size := HW.out.flt
  have htk := take_any h m (by omega)
  have HY : Hid (HeapG Y p lim As rq rn rg ro av F (usedS (absA As), c)) := h
  have hlen := h.len.1
  clear h hsub hsub2 HNO HN2 hn
  go_wp2_with fail
  refine htk.mono ?_
  rintro e w1 ⟨q, rfl, HT⟩
  obtain ⟨g, o, rq', rn', rg', ro', F', T⟩ := HT.out
  have hY1 := T.kp
  have hgF : 0 < m → g ≠ 4 ∧ g ≠ w.heap.size := fun h0 => by
    rcases T.sub g (T.q h0).2.2 with q | q
    · exact ⟨fun e => hF (e ▸ q), by have := hF1 g q; omega⟩
    · have := hz1.pos; omega
  have hgK : 0 < m → F g ∨ Y.heap.size ≤ g := fun h0 => T.sub g (T.q h0).2.2
  have hz2 : ∀ i, i ≤ m → Zt (w1.setCells g o (vcs (List.replicate i ((k : Int), 0, e0)))) := fun i hi => by
    rcases Nat.eq_zero_or_pos m with h0 | h0
    · obtain rfl : i = 0 := by omega
      exact hz1.same (hY1.block 4 hz1.pos hF)
    · exact hz1.same ((sets_heap (Ne.symm (hgF h0).1) _ _ _).trans (hY1.block 4 hz1.pos hF))
  have HZ2 : Hid (∀ i, i ≤ m → Zt (w1.setCells g o (vcs (List.replicate i ((k : Int), 0, e0))))) := hz2
  have HT2 : Hid (0 < m → q = some ⟨g, o, none⟩ ∧ Blk w1 g 52 (o + m * 3)) := fun h0 => ⟨(T.q h0).1, (T.q h0).2.1⟩
  clear htk hz hz1 hz2
  go_wp2_with fail
  go_loopw [40] (fun v wr => ∃ i : Nat, i ≤ m ∧ v = .int .i64 (i : Int) ∧ wr = w1.setCells g o (vcs (List.replicate i ((k : Int), 0, e0)))) (fun v _ => m - (intOf v).toNat)
  case atStart => exact ⟨0, Nat.zero_le _, rfl, rfl⟩
  case round =>
    obtain ⟨i, hi, rfl, hwr⟩ := hrel
    by_cases hlt : i < m
    · obtain ⟨hq, hb⟩ := HT2.out (by omega)
      subst hq
      obtain ⟨c0, c1, c2⟩ := HZ2.out i hi k (by omega)
      rw [← hwr] at c0 c1 c2
      have hth : wr.there g (o + i * 3) 3 := by rw [hwr]; exact (hb.setCells _ _ _).there _ _ (by omega)
      have HTH : Hid (wr.there g (o + i * 3) (#[.int .i64 (k : Int), .int .i64 0, .string e0] : Array Value).size) := hth
      have H1 : Hid ((#[.int .i64 (k : Int), .int .i64 0, .string e0] : Array Value).all (·.oneCell') = true) := one3 _ _ _
      have HNX : Hid (wr.setCells g (o + i * 3) (#[.int .i64 (k : Int), .int .i64 0, .string e0] : Array Value).toList = w1.setCells g o (vcs (List.replicate (i + 1) ((k : Int), 0, e0)))) := by
        show wr.setCells g (o + i * 3) (vc ((k : Int), 0, e0)) = _
        have := sets_app g (vcs (List.replicate i ((k : Int), 0, e0))) (vc ((k : Int), 0, e0)) o w1
        rw [vcs_len, List.length_replicate, repl_succ, ← hwr] at this
        exact this
      have i0 : (0 : Int) ≤ (i : Int) := by omega
      have i1 : (i : Int) < (m : Int) := by omega
      have k0 : (0 : Int) ≤ (k : Int) := by omega
      have k1 : (k : Int) < 5 := by omega
      clear hwr hth hb
      go_wp2_with (first
        | (refine wpList_store_mid (by rfl) 52 (.tmp 48) (.tmp 47) (by rfl) g (o + i * 3) #[.int .i64 (k : Int), .int .i64 0, .string e0] (by rfl) (by rfl) HTH.out size37 H1.out ?_; rw [HNX.out])
        | go_in)
      exact ⟨⟨i + 1, by omega, by go_num, rfl⟩, by simp [intOf]; omega⟩
    · obtain rfl : i = m := by omega
      clear HZ2
      have h2 : HeapG wr p lim As rq' rn' rg' ro' av F' (usedS (absA As), c) := by rw [hwr]; exact T.heap.wrote g o i _ (by rw [vcs_len, List.length_replicate]; exact Nat.le_refl _) (fun h0 => (T.q h0).2.1) (fun a ha hne h0 => T.sep a ha hne h0)
      have kp2 : Kp F Y wr := by
        rcases Nat.eq_zero_or_pos i with h0 | h0
        · subst h0
          rw [hwr]
          exact hY1
        · rw [hwr]
          exact Kp.setCells (hgK h0) _ _ hY1
      have hne : ∀ l : List V, l = List.replicate i ((k : Int), 0, e0) → l ≠ [] → 0 < i := fun l e q => by
        rcases Nat.eq_zero_or_pos i with h0 | h0
        · subst h0
          exact absurd e q
        · exact h0
      have hpc : 0 < i → wr.rangeAt g o (vcs (List.replicate i ((k : Int), 0, e0))) := fun h0 => by
        rw [hwr]
        refine World.rangeAt_setCells_same _ _ _ _ ((T.q h0).2.1.there _ _ ?_)
        rw [vcs_len, List.length_replicate]
        exact Nat.le_refl _
      have hsz1 := kp2.size
      have HC : Hid (∀ v' w3, wr.ownsRow 0 117 2 av As.length (acs As) → Hid (w3.ownsRow 0 117 2 v' (As.length + 1) (acs As ++ (#[.int .i64 (k : Int), .slice q i i] : Array Value).toList)) → Hid ((wr.alloc (.cells #[.int .i64 (k : Int), .slice q i i] 117)).grownBy w3 av.ownBlock ∧ (v'.ownBlock = av.ownBlock ∨ v'.ownBlock = some (wr.heap.size + 1))) →
          (w3.cell? ⟨p.b, p.o + 3, none⟩ = some av ∧ w3.frozen? ⟨p.b, p.o + 3, none⟩ = false ∧ w3.cell? ⟨p.b, p.o + 1, none⟩ = some (.int .i64 (usedS (absA As) : Int)) ∧ w3.frozen? ⟨p.b, p.o + 1, none⟩ = false) ∧
          HeapG ((w3.setCell ⟨p.b, p.o + 3, none⟩ v').setCell ⟨p.b, p.o + 1, none⟩ (.int .i64 ((usedS (absA As) : Int) + ((i : Int) + 1)))) p lim (As ++ [⟨(k : Int), List.replicate i ((k : Int), 0, e0), q, g, o⟩]) rq' rn' rg' ro' v' (fun b => F' b ∨ v'.ownBlock = some b) (usedS (absA (As ++ [⟨(k : Int), List.replicate i ((k : Int), 0, e0), q, g, o⟩])), c) ∧
          Box3 ((w3.setCell ⟨p.b, p.o + 3, none⟩ v').setCell ⟨p.b, p.o + 1, none⟩ (.int .i64 ((usedS (absA As) : Int) + ((i : Int) + 1)))) w.heap.size 0 0 e0 ∧ Kp F Y ((w3.setCell ⟨p.b, p.o + 3, none⟩ v').setCell ⟨p.b, p.o + 1, none⟩ (.int .i64 ((usedS (absA As) : Int) + ((i : Int) + 1)))) ∧
          ∀ b, (F' b ∨ v'.ownBlock = some b) → F b ∨ Y.heap.size ≤ b) := fun v' w3 _ ho3 hg3 => by
        have hfa := HY.out.fa
        have kp3 : Kp F Y w3 := (kp2.alloc (.cells #[.int .i64 (k : Int), .slice q i i] 117)).grown hg3.out.1 (fun b hb => .inl (hfa b hb))
        have hpp : w3.heap[p.b]? = wr.heap[p.b]? := (hg3.out.1.block p.b (by have := h2.blk.lt; simp; omega) (fun e => own_ne h2.arrs h2.blk h2.tn.1 e.symm)).trans (Below.heap_alloc _ _ _ h2.blk.lt)
        have hc := fun o' => World.cell?_of_block (w := wr) (w' := w3) (a := ⟨p.b, o', none⟩) hpp
        have hb3 := h2.blk.same hpp
        have kp4 : Kp F Y ((w3.setCell ⟨p.b, p.o + 3, none⟩ v').setCell ⟨p.b, p.o + 1, none⟩ (.int .i64 ((usedS (absA As) : Int) + ((i : Int) + 1)))) := (kp3.setCell (p := ⟨p.b, p.o + 3, none⟩) (.inl HY.out.fp) _).setCell (p := ⟨p.b, p.o + 1, none⟩) (.inl HY.out.fp) _
        refine ⟨⟨(hc (p.o + 3)).trans h2.c3, hb3.unfrozen (p.o + 3), (hc (p.o + 1)).trans h2.c1, hb3.unfrozen (p.o + 1)⟩, ?_, ?_, kp4, ?_⟩
        · have hmd := h2.made (w3 := w3) (v' := v') ⟨(k : Int), List.replicate i ((k : Int), 0, e0), q, g, o⟩ (.cells #[.int .i64 (k : Int), .slice q i i] 117)
            (fun h0 => by
              have hi0 := hne _ rfl h0
              obtain ⟨t1, t2, t3⟩ := T.q hi0
              refine ⟨t1, ?_, hpc hi0, t3⟩
              rw [List.length_replicate, hwr]
              exact t2.setCells _ _ _)
            (fun a ha hn h0 => T.sep a ha hn (hne _ rfl h0)) (fun h0 hr0 => by rw [List.length_replicate]; exact T.sepr (hne _ rfl h0) hr0)
            ⟨by show (1 : Int) ≤ (k : Int); omega, by show (k : Int) ≤ 4; omega⟩ (fun v hv => by obtain rfl := List.eq_of_mem_replicate hv; exact may_zero ⟨by omega, by omega⟩ _)
            (by simp only [List.length_replicate]; exact hm) (by simpa [ac] using ho3.out) hg3.out.1
          simp only [List.length_replicate] at hmd
          rwa [show ((usedS (absA As) + (i + 1) : Nat) : Int) = (usedS (absA As) : Int) + ((i : Int) + 1) by omega] at hmd
        · exact b1.same (kp4.block _ (by omega) (fun q => by have := hF1 _ q; omega))
        · rintro b (q | q)
          · exact T.sub b q
          · rcases hg3.out.2 with r | r
            · exact .inl (hfa b (r ▸ q))
            · rw [r] at q
              cases q
              exact .inr (by omega)
      have c3 := h2.c3
      have HA : Hid (wr.ownsRow 0 117 2 av As.length (acs As)) := h2.arrs
      have HO : Hid (∀ u ∈ (#[.int .i64 (k : Int), .slice q i i] : Array Value).toList, u.oneCell' = true) := fun u hu => by
        simp only [List.mem_cons, List.not_mem_nil, or_false] at hu
        rcases hu with rfl | rfl <;> rfl
      have HFIN : Hid (∀ w4 F4 v4, HeapG w4 p lim (As ++ [⟨(k : Int), List.replicate i ((k : Int), 0, e0), q, g, o⟩]) rq' rn' rg' ro' v4 F4 (usedS (absA (As ++ [⟨(k : Int), List.replicate i ((k : Int), 0, e0), q, g, o⟩])), c) → Box3 w4 w.heap.size 0 0 e0 → Kp F Y w4 → (∀ b, F4 b → F b ∨ Y.heap.size ≤ b) → Box3 (put3 w4 w.heap.size 4 ((As.length : Int) + 1) e0) w.heap.size 4 ((As.length : Int) + 1) e0 ∧ (.returned (.tuple #[.agg #[.int .i64 4, .int .i64 ((As.length : Int) + 1), .string e0], .int .i64 0]) : Ending) = .returned (.tuple #[.agg (vc R.2.1).toArray, .int .i64 R.2.2]) ∧ Hid (∃ F', HeapC (put3 w4 w.heap.size 4 ((As.length : Int) + 1) e0) p lim R.1 c F' ∧ Kp (fun b => F b ∧ R.2.2 = 0) w (put3 w4 w.heap.size 4 ((As.length : Int) + 1) e0) ∧ ∀ b, F' b → F b ∨ w.heap.size ≤ b)) := fun w4 F4 v4 hh hb hk4 hs4 => by
        refine ⟨hb.put _ _ _, by rw [HM.out]; rfl, F4, ?_, kp_put3 ((Kp.of B0).trans hk4 (fun _ _ q => ⟨q, by rw [HM.out]⟩)) (.inr (Nat.le_refl _)) _ _ _, fun b hb => ?_⟩
        · rw [HM.out]
          refine ⟨_, _, _, _, _, _, ?_, hh.same (fun b hb => put3_heap ?_) (by rw [put3_size]; exact Nat.le_refl _)⟩
          · rw [abs_app]
            rfl
          · rcases hs4 b hb with q | q
            · have := hF1 b q
              omega
            · omega
        · rcases hs4 b hb with q | q
          · exact .inl q
          · exact .inr (by omega)
      have hu3 : (usedS (absA As) : Int) ≤ 100000 := by omega
      have hi3 : (i : Int) ≤ 100000 := by omega
      clear h2 kp2 hpc hne hwr hlt hY1 hgF hgK T HT HY HW b1 HT2
      go_wp2_with (first
        | (at_builtin; refine wpList_app 74 117 _ 2 32 Tryz.underlying74 info82 (by rfl) (by decide) (by decide) (by rfl) _ _ (by rfl) 0 av As.length (acs As) (by rfl) HA.out _ (by rfl) HO.out (by rfl) (by omega) (Nat.zero_le _) ?_; intro v' w3 ho3 hg3; obtain ⟨q4, c4, rfl, -, -⟩ := own_slice ho3.out; obtain ⟨⟨d3, f3, d1, f1⟩, h4, b4, kp4, s4⟩ := HC.out _ w3 HA.out ho3 hg3)
        | (go_at_call 59; refine (count_any h4).mono ?_; rintro e w5 ⟨rfl, rfl⟩; rw [List.length_append, List.length_singleton, Int.natCast_add, Int.natCast_one]; obtain ⟨⟨⟨y0, g0⟩, ⟨y1, g1⟩⟩, y2, g2⟩ := id b4)
        | go_in)
      change bodyPost Tryz.prog _ _ _ _ (put3 _ w.heap.size 4 ((As.length : Int) + 1) e0)
      obtain ⟨n1, n2, n3⟩ := HFIN.out _ _ _ h4 b4 kp4 s4
      obtain ⟨⟨⟨p0, -⟩, ⟨p1, -⟩⟩, p2, -⟩ := n1
      exact bodyPost_ret (v := .tuple #[.agg #[.int .i64 4, .int .i64 ((As.length : Int) + 1), .string e0], .int .i64 0]) (by simp [results, Tryz.results115, go_sem, p0, p1, p2]) rfl ⟨n2, n3⟩
theorem makeC_any {w : World} {p : Hpt} {lim : Nat} {A : Hp} {c : Nat} {F : Nat → Prop} (h : HeapC w p lim A c F) (hz : Zt w) (hF : ¬ F 4) (kind n : Int) :
    Calls Tryz.prog 115 #[.pointer (some ⟨p.b, p.o, none⟩), .int .i64 kind, .int .i64 n] w fun e w' => e = .returned (.tuple #[.agg (vc (makeH A lim kind n).2.1).toArray, .int .i64 (makeH A lim kind n).2.2]) ∧ Hid (∃ F', HeapC w' p lim (makeH A lim kind n).1 c F' ∧ Kp (fun b => F b ∧ (makeH A lim kind n).2.2 = 0) w w' ∧ ∀ b, F' b → F b ∨ w.heap.size ≤ b) := by
  obtain ⟨As, rq, rn, rg, ro, av, rfl, h⟩ := h
  exact make_at h hz hF kind n
theorem make_ok {A : Hp} {lim : Nat} {kind n : Int} (h : ∀ a ∈ A, ∀ v ∈ a.2, mayS v a.1 A.length = true) : ∀ a ∈ (makeH A lim kind n).1, ∀ v ∈ a.2, mayS v a.1 (makeH A lim kind n).1.length = true := by
  unfold makeH
  split
  · exact h
  rename_i hk
  split
  · exact h
  split
  · exact h
  · intro a ha v hv
    rw [List.length_append]
    rcases List.mem_append.1 ha with q | q
    · exact may_mono (h a q v hv) (by omega)
    · obtain rfl := List.mem_singleton.1 q
      obtain rfl := List.eq_of_mem_replicate hv
      exact may_zero ⟨by omega, by omega⟩ _
theorem HeapOf.ok {w : World} {p : Hpt} {lim : Nat} {A : Hp} {F : Nat → Prop} (h : HeapOf w p lim A F) : ∀ a ∈ A, ∀ v ∈ a.2, mayS v a.1 A.length = true := by
  obtain ⟨As, rq, rn, rg, ro, av, rfl, h⟩ := h
  intro a ha v hv
  unfold absA at ha
  obtain ⟨b, hb, rfl⟩ := List.mem_map.1 ha
  rw [abs_len]
  exact (h.ok b hb).2 v hv
theorem make_any {w : World} {p : Hpt} {lim : Nat} {A : Hp} {F : Nat → Prop} (h : HeapOf w p lim A F) (hz : Zt w) (hF : ¬ F 4) (kind n : Int) :
    Calls Tryz.prog 115 #[.pointer (some ⟨p.b, p.o, none⟩), .int .i64 kind, .int .i64 n] w fun e w' => e = .returned (.tuple #[.agg (vc (makeH A lim kind n).2.1).toArray, .int .i64 (makeH A lim kind n).2.2]) ∧ Hid (∃ F', HeapOf w' p lim (makeH A lim kind n).1 F' ∧ Kp (fun b => F b ∧ (makeH A lim kind n).2.2 = 0) w w' ∧ ∀ b, F' b → F b ∨ w.heap.size ≤ b) := by
  refine (makeC_any h.toC hz hF kind n).mono fun e w' ⟨h1, F', h2, h3⟩ => ⟨h1, F', h2.toOf (make_ok h.ok), h3⟩
end Go.Proofs.YtahdkffijlfmnaaGreatDoor.Hp

namespace Go.Proofs.YtahdkffijlfmnaaGreatDoor.Hp
open Go.RowKit
structure Filled (w w' : World) (g o n : Nat) (l : List V) : Prop where
  kp : Kp (fun b => b = g) w w'
  blk : ∀ m, Blk w g 52 m → Blk w' g 52 m
  out : ∀ i, i < o ∨ o + n * 3 ≤ i → w'.cell? ⟨g, i, none⟩ = w.cell? ⟨g, i, none⟩
  inn : w'.rangeAt g o (vcs l)
theorem HeapG.filled {w w' : World} {p : Hpt} {lim : Nat} {As : List Ar} {rq : Option Addr} {rn rg ro : Nat} {av : Value} {F : Nat → Prop} {u : Nat × Nat} (h : HeapG w p lim As rq rn rg ro av F u) (g o n : Nat) (l : List V) (hn : 0 < n) (f : Filled w w' g o n l) (hb : Blk w g 52 (o + n * 3)) (hs : ∀ a ∈ As, a.els ≠ [] → 0 < n → a.g ≠ g ∨ a.o + a.els.length * 3 ≤ o) : HeapG w' p lim As rq rn rg ro av F u := by
  have hk : ∀ k, k < w.heap.size → k ≠ g → w'.heap[k]? = w.heap[k]? := fun k hk hne => f.kp.block k hk hne
  have hp : p.b ≠ g := h.blk.ne hb h.tn.2.1
  have hc := fun o' => World.cell?_of_block (w := w) (w' := w') (a := ⟨p.b, o', none⟩) (hk p.b h.blk.lt hp)
  have hbl : ∀ {b m}, Blk w b 52 m → Blk w' b 52 m := fun {b m} q => by
    by_cases e : b = g
    · subst e
      exact f.blk m q
    · exact q.same (hk b q.lt e)
  exact {
    blk := h.blk.same (hk p.b h.blk.lt hp)
    c0 := (hc p.o).trans h.c0
    c1 := (hc (p.o + 1)).trans h.c1
    c2 := (hc (p.o + 2)).trans h.c2
    c3 := (hc (p.o + 3)).trans h.c3
    arrs := own_same h.arrs fun g' hg => hk g' (own_blk h.arrs g' hg).lt (fun e => own_ne h.arrs hb (by decide) (e ▸ hg))
    els := fun a ha hne => by
      obtain ⟨h1, h2, h3, h4⟩ := h.els a ha hne
      refine ⟨h1, hbl h2, ?_, h4⟩
      rcases hs a ha hne hn with q | q
      · exact range_same h3 (hk _ h2.lt q)
      · by_cases e : a.g = g
        · intro j v hv
          have hj : j < a.els.length * 3 := by rw [← vcs_len]; exact (List.getElem?_eq_some_iff.1 hv).1
          have h3' := h3 j v hv
          rw [e] at h3' ⊢
          rw [f.out _ (.inl (by omega))]
          exact h3'
        · exact range_same h3 (hk _ h2.lt e)
    room := fun hn => by obtain ⟨h1, h2, h3⟩ := h.room hn; exact ⟨h1, hbl h2, h3⟩
    sep := h.sep
    sepr := h.sepr
    fp := h.fp
    fa := h.fa
    flt := fun b hb => Nat.lt_of_lt_of_le (h.flt b hb) f.kp.size
    le := h.le
    top := h.top
    small := h.small
    ok := h.ok
    tn := h.tn
    rs := fun x hx => ⟨(h.rs x hx).1, (hc x.1).trans (h.rs x hx).2⟩ }
set_option maxRecDepth 100000 in
set_option maxHeartbeats 2000000 in
theorem fill_any (w : World) (tq fq : Option Addr) (tc fc tg tO fg fo : Nat) (l : List V) (hl : l.length ≤ 100000) (hx : ∀ v ∈ l, v.2.2.size ≤ 256) (ht : 0 < l.length → tq = some ⟨tg, tO, none⟩ ∧ Blk w tg 52 (tO + l.length * 3)) (hf : 0 < l.length → fq = some ⟨fg, fo, none⟩ ∧ w.rangeAt fg fo (vcs l) ∧ fg ≠ tg) :
    Calls Tryz.prog 52 #[.slice tq l.length tc, .slice fq l.length fc] w fun e w' => e = .returned (.tuple #[]) ∧ Hid ((0 < l.length → Filled w w' tg tO l.length l) ∧ (l.length = 0 → w' = w)) := by
  rcases Nat.eq_zero_or_pos l.length with h0 | h0
  · rw [h0]
    clear ht hf
    go_enter Tryz.func52, Tryz.ntmps52
    go_wp2_with fail
    go_loopw [8] (fun v wr => v = .int .i64 0 ∧ wr = w) (fun _ _ => 0)
    case atStart => exact ⟨rfl, rfl⟩
    case round =>
      obtain ⟨rfl, rfl⟩ := hrel
      go_wp2
      go_end0
      exact ⟨rfl, fun q => by omega, fun _ => rfl⟩
  · obtain ⟨rfl, hb⟩ := ht h0
    obtain ⟨rfl, hr, hne⟩ := hf h0
    have HBLK : Hid (Blk w tg 52 (tO + l.length * 3)) := hb
    have HRNG : Hid (w.rangeAt fg fo (vcs l)) := hr
    have hfl : fg < w.heap.size := block_lt_of_cell (hr 0 (.int .i64 l[0].1) ((flat_at vc 3 (fun _ => rfl) l 0 0 h0 (by decide)).trans rfl))
    have htl : tg < w.heap.size := hb.lt
    clear hb hr ht hf
    go_enter Tryz.func52, Tryz.ntmps52
    go_wp2_with fail
    go_loopw [8] (fun v wr => ∃ j : Nat, j ≤ l.length ∧ v = .int .i64 (j : Int) ∧ Hid (Filled w wr tg tO j (l.take j))) (fun v _ => l.length - (intOf v).toNat)
    case atStart => exact ⟨0, Nat.zero_le _, rfl, ⟨Kp.refl _ _, fun _ q => q, fun _ _ => rfl, fun j v hv => by simp [vcs] at hv⟩⟩
    case round =>
      obtain ⟨j, hj, rfl, hF⟩ := hrel
      by_cases hlt : j < l.length
      case neg =>
        obtain rfl : j = l.length := by omega
        rw [List.take_length] at hF
        go_wp2
        go_end0
        exact ⟨rfl, fun _ => hF, fun q => by omega⟩
      have hv := hx l[j] (List.getElem_mem hlt)
      have er := vcs_get (range_same HRNG.out (hF.out.kp.block fg hfl hne)) j hlt
      have htk : l.take (j + 1) = l.take j ++ [l[j]] := List.take_succ_eq_append_getElem hlt
      generalize l[j] = y at hv er htk
      obtain ⟨vk, vn, vs⟩ := y
      simp only at hv
      have a0 : wr.cell? ⟨fg, fo + j * 3, none⟩ = some (.int .i64 vk) := er 0 _ rfl
      have a1 : wr.cell? ⟨fg, fo + j * 3 + 1, none⟩ = some (.int .i64 vn) := er 1 _ rfl
      have a2 : wr.cell? ⟨fg, fo + j * 3 + 2, none⟩ = some (.string vs) := er 2 _ rfl
      have j0 : (0 : Int) ≤ (j : Int) := by omega
      have j1 : (j : Int) < (l.length : Int) := by omega
      obtain ⟨⟨⟨p0, -⟩, ⟨p1, -⟩⟩, p2, -⟩ := Box3.new wr vk vn vs 52
      have nb : Below wr.heap.size wr (wr.alloc (.cells #[.int .i64 vk, .int .i64 vn, .string vs] 52)) := (Below.refl _ wr).alloc (Nat.le_refl _) _
      have hcp := copied_any vk vn vs (wr.alloc (.cells #[.int .i64 vk, .int .i64 vn, .string vs] 52)) (by omega)
      have HBW : Hid (Blk wr tg 52 (tO + l.length * 3)) := hF.out.blk _ HBLK.out
      have HST : Hid (∀ W, Below wr.heap.size wr W → W.there tg (tO + j * 3) 3 ∧ Filled w (W.setCells tg (tO + j * 3) (vc (vk, vn, vs))) tg tO (j + 1) (l.take (j + 1))) := fun W hW => by
        have hbW := HBW.out.next hW
        have hth := hbW.there (tO + j * 3) 3 (by omega)
        refine ⟨hth, Kp.setCells (F := fun b => b = tg) (.inl rfl) _ _ (hF.out.kp.next hW), fun m hm => ((hF.out.blk m hm).next hW).setCells _ _ _, fun i hi => ?_, ?_⟩
        · rw [World.cell?_setCells_out _ _ _ _ _ (fun _ _ => by show i < tO + j * 3 ∨ tO + j * 3 + 3 ≤ i; omega)]
          rw [hW.cell (p := ⟨tg, i, none⟩) (HBW.out.lt)]
          exact hF.out.out i (by omega)
        · rw [htk, vcs_app]
          have r1 : (W.setCells tg (tO + j * 3) (vc (vk, vn, vs))).rangeAt tg tO (vcs (l.take j)) := World.rangeAt_setCells_apart (range_same hF.out.inn (hW.block tg HBW.out.lt)) _ _ _ (.inr (.inl (by rw [vcs_len, List.length_take]; omega)))
          have r2 := World.rangeAt_setCells_same W tg (tO + j * 3) (vc (vk, vn, vs)) hth
          intro i v hv'
          have hlj : (vcs (l.take j)).length = j * 3 := by rw [vcs_len, List.length_take]; omega
          by_cases hi : i < j * 3
          · rw [List.getElem?_append_left (by omega)] at hv'
            exact r1 i v hv'
          · rw [List.getElem?_append_right (by omega), hlj] at hv'
            have e : (vcs [(vk, vn, vs)])[i - j * 3]? = (vc (vk, vn, vs))[i - j * 3]? := by simp [vcs]
            rw [e] at hv'
            have := r2 (i - j * 3) v hv'
            rwa [show tO + j * 3 + (i - j * 3) = tO + i by omega] at this
      clear er htk hF HBW
      have H1 : Hid ((#[.int .i64 vk, .int .i64 vn, .string vs] : Array Value).all (·.oneCell') = true) := one3 _ _ _
      go_wp2_with (first
        | (go_at_call 71; refine hcp.mono ?_; rintro e w3 ⟨rfl, hb3⟩; obtain ⟨hth3, hF3⟩ := HST.out w3 (below2 nb hb3); have HTH3 : Hid (w3.there tg (tO + j * 3) (#[.int .i64 vk, .int .i64 vn, .string vs] : Array Value).size) := hth3; clear hth3)
        | (refine wpList_store_mid (by rfl) 52 (.tmp 17) (.tmp 16) (by rfl) tg (tO + j * 3) #[.int .i64 vk, .int .i64 vn, .string vs] (by rfl) (by rfl) HTH3.out size37 H1.out ?_)
        | go_in)
      exact ⟨⟨j + 1, by omega, by go_num, hF3⟩, by simp [intOf]; omega⟩
end Go.Proofs.YtahdkffijlfmnaaGreatDoor.Hp

namespace Go.Proofs.YtahdkffijlfmnaaGreatDoor.Hp
open Go.RowKit
def bv (l : List UInt8) : List Value := l.map fun c => Value.int .u8 (c.toNat : Int)
theorem bv_app (a b : List UInt8) : bv (a ++ b) = bv a ++ bv b := List.map_append
theorem bv_len (a : List UInt8) : (bv a).length = a.length := List.length_map ..
theorem bv_one (l : List UInt8) : ∀ u ∈ bv l, u.oneCell' = true := by
  intro u hu
  obtain ⟨c, _, rfl⟩ := List.mem_map.1 hu
  rfl
theorem info5 : (Tryz.prog.info? 5).map (fun i => (i.zero, i.size, i.bytes)) = some (some (.int .u8 0), 1, 1) := by kernel_rfl
def byteOf (n : Int) : UInt8 := UInt8.ofNat (n % 256).toNat
theorem byteOf_nat (n : Int) : ((byteOf n).toNat : Int) = n % 256 := by
  unfold byteOf
  rw [UInt8.toNat_ofNat']
  omega
def numB (n : Int) : Nat → List UInt8
  | 0 => []
  | k + 1 => byteOf (n / 2 ^ (8 * k)) :: numB n k
theorem numB_len (n : Int) : ∀ k, (numB n k).length = k
  | 0 => rfl
  | k + 1 => by rw [numB, List.length_cons, numB_len n k]
structure Grew (w w' : World) (base : Nat) (v v' : Value) (n : Nat) (l : List UInt8) : Prop where
  own : w'.ownsRow base 5 1 v' n (bv l)
  kp : Kp (fun b => v.ownBlock = some b) w w'
  sub : ∀ g, v'.ownBlock = some g → v.ownBlock = some g ∨ w.heap.size ≤ g
theorem Grew.step {w wr w3 : World} {base : Nat} {v b v' : Value} {n n' : Nat} {l l' : List UInt8} (h : Grew w wr base v b n l) (C : Obj) (hg : (wr.alloc C).grownBy w3 b.ownBlock) (hv : v'.ownBlock = b.ownBlock ∨ v'.ownBlock = some (wr.heap.size + 1)) (ho : w3.ownsRow base 5 1 v' n' (bv l')) : Grew w w3 base v v' n' l' :=
  ⟨ho, (h.kp.alloc C).grown hg (fun k hk => h.sub k hk), fun g hg' => by
    rcases hv with q | q
    · exact h.sub g (q ▸ hg')
    · rw [q] at hg'
      cases hg'
      have := h.kp.size
      exact .inr (by omega)⟩
theorem Grew.trans {w w1 w2 : World} {base : Nat} {v v1 v2 : Value} {n n' : Nat} {l l' : List UInt8} (h : Grew w w1 base v v1 n l) (k : Grew w1 w2 base v1 v2 n' l') : Grew w w2 base v v2 n' l' :=
  ⟨k.own, h.kp.trans k.kp (fun i hi hv => by rcases h.sub i hv with q | q; exact q; omega), fun g hg => by
    rcases k.sub g hg with q | q
    · exact h.sub g q
    · have := h.kp.size
      exact .inr (by omega)⟩
theorem Grew.next {w w1 w2 : World} {base : Nat} {v v1 : Value} {n : Nat} {l : List UInt8} (h : Grew w w1 base v v1 n l) (k : Below w1.heap.size w1 w2) : Grew w w2 base v v1 n l :=
  ⟨own_next h.own k, h.kp.next k, h.sub⟩
set_option maxRecDepth 100000 in
set_option maxHeartbeats 1000000 in
theorem appNum_any (n : Int) (k : Nat) (hk : k ≤ 8) (base : Nat) (v : Value) (m : Nat) (l : List UInt8) (w : World) (ho : w.ownsRow base 5 1 v m (bv l)) (hb : base ≤ w.heap.size) (hl : m ≤ 900000000) :
    Calls Tryz.prog 58 #[v, .int .i64 n, .int .i64 (k : Int)] w fun e w' => ∃ v', e = .returned v' ∧ Hid (Grew w w' base v v' (m + k) (l ++ numB n k)) := by
  go_enter Tryz.func58, Tryz.ntmps58
  go_wp2
  go_loopw [0, 2] (fun b i wr => ∃ (j : Nat) (l' : List UInt8), j ≤ k ∧ i = .int .i64 ((j : Int) - 1) ∧ Hid (l' ++ numB n j = l ++ numB n k) ∧ Hid (Grew w wr base v b (m + k - j) l')) (fun _ i _ => (intOf i + 1).toNat)
  case atStart => exact ⟨k, l, Nat.le_refl _, rfl, rfl, by rw [Nat.add_sub_cancel]; exact ⟨ho, Kp.refl _ _, fun g hg => .inl hg⟩⟩
  case round =>
    obtain ⟨j, l', hj, rfl, hl', hG⟩ := hrel
    have ho' := hG.out.own
    cases j with
    | zero =>
      obtain ⟨q, c, rfl, -, -⟩ := own_slice ho'
      go_wp2
      first | (change bodyPost Tryz.prog Tryz.f58 _ Exit.ret _ _) | (simp only [Exit.noGoto])
      go_ret
      refine ⟨_, rfl, ?_⟩
      have e := hl'.out
      rw [numB, List.append_nil] at e
      rw [← e]
      exact hG
    | succ j =>
      have e1 : ((j + 1 : Nat) : Int) - 1 = (j : Int) := by omega
      rw [e1]
      have hz : base ≤ wr.heap.size := Nat.le_trans hb hG.out.kp.size
      have j0 : (0 : Int) ≤ (j : Int) := by omega
      have j8 : (j : Int) ≤ 7 := by omega
      have H1 : Hid (∀ u ∈ (#[.int .u8 (n / 2 ^ (8 * j) % 256)] : Array Value).toList, u.oneCell' = true) := fun u hu => by
        obtain rfl := List.mem_singleton.1 (by simpa using hu)
        rfl
      go_wp2_with (first
        | (at_builtin; refine wpList_app 80 5 _ 1 1 Tryz.underlying80 info5 (by rfl) (by decide) (by decide) (by rfl) _ _ (by rfl) base u0 (m + k - (j + 1)) (bv l') (by rfl) ho' _ (by rfl) H1.out (by rfl) (by omega) hz ?_; intro v' w3 ho3 hg3)
        | go_in)
      refine ⟨⟨j, l' ++ [byteOf (n / 2 ^ (8 * j))], by omega, by go_num, ?_, ?_⟩, by simp [intOf]⟩
      · have e := hl'.out
        rw [numB] at e
        show (l' ++ [byteOf (n / 2 ^ (8 * j))]) ++ numB n j = l ++ numB n k
        rw [← e]
        simp
      · have e : bv (l' ++ [byteOf (n / 2 ^ (8 * j))]) = bv l' ++ [.int .u8 (n / 2 ^ (8 * j) % 256)] := by
          rw [bv_app]
          simp only [bv, List.map_cons, List.map_nil, byteOf_nat]
        refine hG.out.step _ hg3.out.1 hg3.out.2 ?_
        have q := ho3.out
        rw [show m + k - (j + 1) + 1 = m + k - j by omega] at q
        rw [e]
        exact q
theorem conv_own {w : World} {base : Nat} {v : Value} {n : Nat} {l : List UInt8} (h : w.ownsRow base 5 1 v n (bv l)) : (convert 80 9 v).run Tryz.prog w = .ok (.string ⟨l.toArray⟩) w := by
  have hn : n = l.length := by have := h.1; rw [bv_len] at this; omega
  rcases h.2 with ⟨rfl, h0⟩ | ⟨g, cap, cur, rfl, hb, hg, hnc, hcm, hcs, htake⟩
  · have hl : l = [] := List.eq_nil_of_length_eq_zero (by omega)
    subst hl
    exact run_convert_bytes_nil w 80 5 Tryz.underlying80 Tryz.underlying5 0 0 9 Tryz.underlying9
  · subst hn
    refine run_convert_bytes_back (P := Tryz.prog) w 80 9 5 ⟨g, 0, none⟩ cap l Tryz.underlying80 Tryz.underlying5 Tryz.underlying9 (fun j hj => ?_)
    exact h.cells (g := g) rfl j _ (by unfold bv; rw [List.getElem?_map, List.getElem?_eq_getElem hj]; rfl)
end Go.Proofs.YtahdkffijlfmnaaGreatDoor.Hp
