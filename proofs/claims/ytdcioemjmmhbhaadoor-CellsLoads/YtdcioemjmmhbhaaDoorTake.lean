import Derived.Test.YtdcioemjmmhbhaaDoorPut
import Derived.Laws.MakeOwn
import Derived.OwnWalk
namespace Go.Proofs.YtdcioemjmmhbhaaDoor
open Go.RowKit

def limS (n : Int) : Nat := if n < 0 then 0 else if 100000 < n then 100000 else n.toNat
theorem limS_le (n : Int) : limS n ≤ 100000 := by
  unfold limS
  split
  · omega
  · split <;> omega
theorem limS_min (n : Int) : ((limS n : Nat) : Int) = min (max n 0) 100000 := by
  unfold limS
  split
  · omega
  · split <;> omega

theorem info37 : (Tryd.prog.info? 37).map (fun i => (i.zero, i.size, i.bytes)) = some (some (.agg #[.int .i64 0, .int .i64 0, .string e0]), 3, 32) := by kernel_rfl
theorem run_makeV (M : Nat) (hM : M ≤ 100000) : ∃ Z : Array Value, Z.size = M * 3 ∧ ∀ w : World, (Instr.makeSlice 59 (.int .i64 (M : Int)) (.int .i64 (M : Int))).run Tryd.prog w = .ok (.slice (some ⟨w.heap.size, 0, none⟩) M M) (w.alloc (.cells Z 37)) := by
  obtain ⟨i, hq, hz, hi, hb⟩ := info_parts info37
  refine ⟨_, size_madeCells (Value.agg #[.int .i64 0, .int .i64 0, .string e0]).cells (M * 3), fun w => ?_⟩
  have := run_make (P := Tryd.prog) w 59 37 i _ Tryd.underlying59 hq hz .i64 .i64 (M : Int) (M : Int) (by omega) (by omega) (by rw [hb]; omega) (by omega)
  rw [Int.toNat_natCast, hi] at this
  exact this
theorem add_zero' (a : Addr) : a.add 0 = a := by simp [Addr.add]
set_option maxRecDepth 100000 in
theorem slA (a : Option Addr) (r n : Nat) (h : n ≤ r) : ∀ wx : World, (Instr.slice 59 (.slice a r r) none (some (.int .i64 (n : Int))) (some (.int .i64 (n : Int)))).run Tryd.prog wx = .ok (.slice a n n) wx := by
  intro wx
  have h0 : (0 : Int) ≤ (n : Int) := by omega
  have h1 : (n : Int) ≤ (r : Int) := by omega
  cases a <;> simp [go_sem, Tryd.underlying59, h0, h1, add_zero']
set_option maxRecDepth 100000 in
theorem slB (a : Option Addr) (r n : Nat) (h : n ≤ r) : ∀ wx : World, (Instr.slice 59 (.slice a r r) (some (.int .i64 (n : Int))) none none).run Tryd.prog wx = .ok (.slice (if r = n then a else a.map (·.add (n * 3))) (r - n) (r - n)) wx := by
  intro wx
  have h0 : (0 : Int) ≤ (n : Int) := by omega
  have h1 : (n : Int) ≤ (r : Int) := by omega
  by_cases e : r = n
  · simp [go_sem, Tryd.underlying59, h0, e]
  · simp [go_sem, Tryd.underlying59, h0, h1, e]

set_option maxHeartbeats 400000 in
theorem new_any (n : Int) (w : World) : Calls Tryd.prog 8 #[.int .i64 n] w fun e w' => e = .returned (.pointer (some ⟨w.heap.size, 0, none⟩)) ∧ HeapOf w' w.heap.size (limS n) [] (fun b => b = w.heap.size) ∧ Below w.heap.size w w' := by
  have key : ∀ l : Nat, l ≤ 100000 → HeapOf (w.alloc (.cells #[.int .i64 (l : Int), .int .i64 0, .slice none 0 0, .slice none 0 0] 78)) w.heap.size l [] (fun b => b = w.heap.size) := fun l hl => by
    have hn := World.alloc_heap_new w (.cells #[.int .i64 (l : Int), .int .i64 0, .slice none 0 0, .slice none 0 0] 78)
    refine ⟨[], none, 0, 0, 0, .slice none 0 0, rfl, ?_⟩
    exact {
      blk := ⟨_, hn, by simp⟩
      c0 := by unfold World.cell?; rw [hn]; rfl
      c1 := by unfold World.cell?; rw [hn]; rfl
      c2 := by unfold World.cell?; rw [hn]; rfl
      c3 := by unfold World.cell?; rw [hn]; rfl
      arrs := World.ownsRow_nil _ _ _ _
      els := fun a ha => by cases ha
      room := fun h => by omega
      sep := List.Pairwise.nil
      sepr := fun a ha => by cases ha
      fp := rfl
      fa := fun g hg => by cases hg
      flt := fun g hg => by subst hg; simp
      le := Nat.zero_le _
      top := hl
      small := Nat.zero_le _
      ok := fun a ha => by cases ha }
  have B0 : ∀ o : Obj, Below w.heap.size w (w.alloc o) := fun o => (Below.refl _ w).alloc (Nat.le_refl _) _
  have hk := key (limS n) (limS_le n)
  rw [limS_min] at hk
  generalize limS n = L at hk ⊢
  clear key
  go_enter Tryd.func8, Tryd.ntmps8
  go_wp2
  go_ret
  exact ⟨rfl, hk, B0 _⟩

/-- Another room. -/
theorem HeapG.roomed {w : World} {p lim : Nat} {As : List Ar} {rq : Option Addr} {rn rg ro : Nat} {av : Value} {F : Nat → Prop} {u : Nat × Nat} (h : HeapG w p lim As rq rn rg ro av F u) (q : Option Addr) (r g o : Nat) (F' : Nat → Prop) (hF : ∀ b, F b → F' b) (hl : ∀ b, F' b → b < w.heap.size)
    (hr : 0 < r → q = some ⟨g, o, none⟩ ∧ Blk w g 37 (o + r * 3) ∧ F' g) (hs : ∀ a ∈ As, a.els ≠ [] → 0 < r → a.g ≠ g ∨ a.o + a.els.length * 3 ≤ o) (hr1 : r ≤ 100000) :
    HeapG (w.setCell ⟨p, 2, none⟩ (.slice q r r)) p lim As q r g o av F' u := by
  have hk : ∀ k, k ≠ p → (w.setCell ⟨p, 2, none⟩ (.slice q r r)).heap[k]? = w.heap[k]? := fun k hk => set_heap (a := ⟨p, 2, none⟩) hk
  have ho : ∀ i, i ≠ 2 → (w.setCell ⟨p, 2, none⟩ (.slice q r r)).cell? ⟨p, i, none⟩ = w.cell? ⟨p, i, none⟩ := fun i hi => World.cell?_setCell_other _ _ _ _ (fun e => hi (by have := congrArg Addr.off e; simp at this; omega))
  exact {
    blk := h.blk.setCell _ _
    c0 := (ho 0 (by decide)).trans h.c0
    c1 := (ho 1 (by decide)).trans h.c1
    c2 := World.cell?_setCell_same' _ _ _ (by rw [h.c2]; rfl)
    c3 := (ho 3 (by decide)).trans h.c3
    arrs := own_same h.arrs fun g hg => hk g (fun e => own_ne h.arrs h.blk (by decide) (e ▸ hg))
    els := fun a ha hn => by
      obtain ⟨h1, h2, h3, h4⟩ := h.els a ha hn
      exact ⟨h1, h2.setCell _ _, range_same h3 (hk _ (h2.ne h.blk (by decide))), hF _ h4⟩
    room := fun hn => by obtain ⟨h1, h2, h3⟩ := hr hn; exact ⟨h1, h2.setCell _ _, h3⟩
    sep := h.sep
    sepr := hs
    fp := hF _ h.fp
    fa := fun g hg => hF _ (h.fa g hg)
    flt := fun g hg => by rw [set_size]; exact hl g hg
    le := h.le
    top := h.top
    small := hr1
    ok := h.ok }
/-- The room without its first cells. -/
theorem HeapG.cut {w : World} {p lim : Nat} {As : List Ar} {rq : Option Addr} {rn rg ro : Nat} {av : Value} {F : Nat → Prop} {u : Nat × Nat} (h : HeapG w p lim As rq rn rg ro av F u) (n : Nat) (hn : n ≤ rn) :
    HeapG (w.setCell ⟨p, 2, none⟩ (.slice (if rn = n then rq else rq.map (·.add (n * 3))) (rn - n) (rn - n))) p lim As (if rn = n then rq else rq.map (·.add (n * 3))) (rn - n) rg (ro + n * 3) av F u := by
  refine h.roomed _ _ _ _ F (fun _ q => q) h.flt (fun hr => ?_) (fun a ha hne hr => ?_) (by have := h.small; omega)
  · obtain ⟨h1, h2, h3⟩ := h.room (by omega)
    rw [if_neg (by omega), h1]
    refine ⟨?_, h2.le (by omega), h3⟩
    rw [Option.map_some, Addr.add_mid]
  · rcases h.sepr a ha hne (by omega) with q | q
    · exact .inl q
    · exact .inr (by omega)

/-- What take gives. -/
structure Took (w w' : World) (p lim : Nat) (As : List Ar) (av : Value) (F : Nat → Prop) (n : Nat) (q : Option Addr) (g o : Nat) (rq : Option Addr) (rn rg ro : Nat) (F' : Nat → Prop) (u : Nat × Nat) : Prop where
  heap : HeapG w' p lim As rq rn rg ro av F' u
  q : 0 < n → q = some ⟨g, o, none⟩ ∧ Blk w' g 37 (o + n * 3) ∧ F' g
  sep : ∀ a ∈ As, a.els ≠ [] → 0 < n → a.g ≠ g ∨ a.o + a.els.length * 3 ≤ o
  sepr : 0 < n → 0 < rn → g ≠ rg ∨ o + n * 3 ≤ ro
  kp : Kp F w w'
  sub : ∀ b, F' b → F b ∨ w.heap.size ≤ b
  sup : ∀ b, F b → F' b
theorem HeapG.took {w0 w : World} {p lim : Nat} {As : List Ar} {rq : Option Addr} {rn rg ro : Nat} {av : Value} {F F0 : Nat → Prop} {u : Nat × Nat} (h : HeapG w p lim As rq rn rg ro av F u) (n : Nat) (hn : n ≤ rn) (k : Kp F0 w0 w) (hp : F0 p) (hs : ∀ b, F b → F0 b ∨ w0.heap.size ≤ b) (hu : ∀ b, F0 b → F b) :
    Took w0 (w.setCell ⟨p, 2, none⟩ (.slice (if rn = n then rq else rq.map (·.add (n * 3))) (rn - n) (rn - n))) p lim As av F0 n rq rg ro (if rn = n then rq else rq.map (·.add (n * 3))) (rn - n) rg (ro + n * 3) F u where
  heap := h.cut n hn
  q h0 := by obtain ⟨h1, h2, h3⟩ := h.room (by omega); exact ⟨h1, (h2.le (by omega)).setCell _ _, h3⟩
  sep a ha hne h0 := h.sepr a ha hne (by omega)
  sepr _ _ := .inr (Nat.le_refl _)
  kp := k.setCell (p := ⟨p, 2, none⟩) (.inl hp) _
  sub := hs
  sup := hu

set_option maxRecDepth 100000 in
set_option maxHeartbeats 1000000 in
theorem take_any {w : World} {p lim : Nat} {As : List Ar} {rq : Option Addr} {rn rg ro : Nat} {av : Value} {F : Nat → Prop} {u : Nat × Nat} (h : HeapG w p lim As rq rn rg ro av F u) (n : Nat) (hn : n ≤ 100000) :
    Calls Tryd.prog 38 #[.pointer (some ⟨p, 0, none⟩), .int .i64 (n : Int)] w fun e w' => ∃ q, e = .returned (.slice q n n) ∧ Hid (∃ g o rq' rn' rg' ro' F', Took w w' p lim As av F n q g o rq' rn' rg' ro' F' u) := by
  have h2 := h.c2
  have f2 := h.blk.unfrozen 2
  have hsm := h.small
  by_cases hle : n ≤ rn
  · have s1 := slA rq rn n hle
    have s2 := slB rq rn n hle
    have i1 : ¬ (rn : Int) < (n : Int) := by omega
    have HT : Hid _ := h.took n hle (Kp.refl F w) h.fp (fun b hb => .inl hb) (fun b hb => hb)
    clear h
    generalize (if rn = n then rq else rq.map (·.add (n * 3))) = q2 at s2 HT
    go_enter Tryd.func38, Tryd.ntmps38
    go_wp2
    go_ret
    exact ⟨_, rfl, _, _, _, _, _, _, _, HT.out⟩
  · obtain ⟨M, hM⟩ : ∃ M : Nat, M = max n 256 := ⟨_, rfl⟩
    obtain ⟨Z, hZ, hmk⟩ := run_makeV M (by omega)
    have s1 := slA (some ⟨w.heap.size, 0, none⟩) M n (by omega)
    have s2 := slB (some ⟨w.heap.size, 0, none⟩) M n (by omega)
    have i1 : (rn : Int) < (n : Int) := by omega
    have em : max (n : Int) 256 = (M : Int) := by omega
    have ha := h.next ((Below.refl _ w).alloc (Nat.le_refl _) (.cells Z 37))
    have hr := ha.roomed (some ⟨w.heap.size, 0, none⟩) M w.heap.size 0 (fun b => F b ∨ b = w.heap.size) (fun b hb => .inl hb) (fun b hb => by rcases hb with q | rfl; exact ha.flt b q; simp) (fun _ => ⟨rfl, Blk.new w Z _ (by omega), .inr rfl⟩) (fun a hm hne _ => .inl (by have := h.flt _ (h.els a hm hne).2.2.2; omega)) (by omega)
    have HT : Hid _ := hr.took n (by omega) (((Kp.refl F w).alloc (.cells Z 37)).setCell (p := ⟨p, 2, none⟩) (.inl h.fp) (.slice (some ⟨w.heap.size, 0, none⟩) M M)) h.fp (fun b hb => by rcases hb with q | rfl; exact .inl q; exact .inr (Nat.le_refl _)) (fun b hb => .inl hb)
    have g2 := hr.c2
    have g3 := hr.blk.unfrozen 2
    have k2 := ha.c2
    have k3 := ha.blk.unfrozen 2
    clear h ha hr hM hZ
    generalize (if M = n then some (⟨w.heap.size, 0, none⟩ : Addr) else (some (⟨w.heap.size, 0, none⟩ : Addr)).map (·.add (n * 3))) = q2 at s2 HT
    go_enter Tryd.func38, Tryd.ntmps38
    go_wp2
    go_ret
    exact ⟨_, rfl, _, _, _, _, _, _, _, HT.out⟩
end Go.Proofs.YtdcioemjmmhbhaaDoor
