import Derived.Lib.EndianBits
import Derived.Lib.VarintBits
import Derived.Test.YtdmiciblfbkndaaDoorA08
import Derived.Test.YtdmiciblfbkndaaDoorA07
import Derived.Test.YtdmiciblfbkndaaDoorA01
namespace Go.Proofs.YtdmiciblfbkndaaDoor
open Go.RowKit

/-- A text as a value. -/
def sV (l : List UInt8) : Value := .string ⟨l.toArray⟩
theorem sV_at {x : ByteArray} {l : List UInt8} (h : x.data.toList = l) : sV l = .string x := by
  unfold sV; rw [← h]
/-- Three cells that may be written. -/
theorem Full.three {W : World} {g : Nat} {t : TypeId} {a b c : Value} (h : Full W g t [a, b, c]) : (W.cell? ⟨g, 0, none⟩ = some a ∧ W.frozen? ⟨g, 0, none⟩ = false) ∧ (W.cell? ⟨g, 1, none⟩ = some b ∧ W.frozen? ⟨g, 1, none⟩ = false) ∧ W.cell? ⟨g, 2, none⟩ = some c ∧ W.frozen? ⟨g, 2, none⟩ = false :=
  ⟨h.cell 0 _ rfl, h.cell 1 _ rfl, h.cell 2 _ rfl⟩
theorem own_oth {W : World} {b : Nat} {e : TypeId} {size : Nat} {v : Value} {n : Nat} {xs : List Value} (h : W.ownsRow b e size v n xs) {d : Nat} {t : TypeId} {vs : List Value} (f : Full W d t vs) (ht : t ≠ e) (j : Nat) (u : Value) : (W.setCell ⟨d, j, none⟩ u).ownsRow b e size v n xs :=
  own_same h fun g hg => set_heap (a := ⟨d, j, none⟩) (fun q => by
    have hb := own_blk h g hg
    have hd : Blk W d t 0 := ⟨_, f, Nat.zero_le _⟩
    exact hb.ne hd (Ne.symm ht) q)
theorem own_grow {W W' : World} {b c : Nat} {e e' : TypeId} {size size' : Nat} {v v' : Value} {n n' : Nat} {xs xs' : List Value} (h : W.ownsRow b e size v n xs) (k : W.ownsRow c e' size' v' n' xs') (ht : e' ≠ e) (hg : W.grownBy W' v'.ownBlock) : W'.ownsRow b e size v n xs :=
  own_same h fun g hv => hg.block g (own_blk h g hv).lt (fun q => by
    have := own_blk k g q.symm
    exact this.ne (own_blk h g hv) ht rfl)
theorem Full.grow {W W' : World} {g c : Nat} {t e' : TypeId} {size' : Nat} {vs : List Value} {v' : Value} {n' : Nat} {xs' : List Value} (f : Full W g t vs) (k : W.ownsRow c e' size' v' n' xs') (ht : e' ≠ t) (hg : W.grownBy W' v'.ownBlock) : Full W' g t vs :=
  (hg.block g f.lt (fun q => by
    have := own_blk k g q.symm
    exact this.ne (⟨_, f, Nat.zero_le _⟩ : Blk W g t 0) ht rfl)).trans f

/-- Blocks of other kinds than the writer's are as they were. -/
def Oth (W W' : World) : Prop := ∀ g t vs, Full W g t vs → t ≠ 5 → t ≠ 9 → t ≠ 110 → Full W' g t vs
theorem Oth.refl (W : World) : Oth W W := fun _ _ _ h _ _ _ => h
theorem Oth.trans {a b c : World} (h : Oth a b) (k : Oth b c) : Oth a c := fun g t vs f h1 h2 h3 => k g t vs (h g t vs f h1 h2 h3) h1 h2 h3
theorem Oth.of {a b : World} (h : Below a.heap.size a b) : Oth a b := fun _ _ _ f _ _ _ => f.next h
/-- The writer in memory. -/
structure Wr (B : Nat) (W : World) (P : Nat) (nd : Int) (ns : List (List UInt8)) (l : List UInt8) (nv lv : Value) : Prop where
  low : B ≤ P
  box : Full W P 110 [.int .i64 nd, nv, lv]
  names : W.ownsRow B 9 1 nv ns.length (ns.map sV)
  laid : W.ownsRow B 5 1 lv l.length (Lx.bv l)
theorem Wr.next {B : Nat} {W W' : World} {P : Nat} {nd : Int} {ns : List (List UInt8)} {l : List UInt8} {nv lv : Value} (h : Wr B W P nd ns l nv lv) (k : Below W.heap.size W W') : Wr B W' P nd ns l nv lv := ⟨h.low, h.box.next k, own_next h.names k, own_next h.laid k⟩
theorem Wr.size {B : Nat} {W : World} {P : Nat} {nd : Int} {ns : List (List UInt8)} {l : List UInt8} {nv lv : Value} (h : Wr B W P nd ns l nv lv) : B ≤ W.heap.size := Nat.le_of_lt (Nat.lt_of_le_of_lt h.low h.box.lt)
/-- Bytes more: the row that was made is stored. -/
theorem Wr.more {B : Nat} {W W' : World} {P : Nat} {nd : Int} {ns : List (List UInt8)} {l : List UInt8} {nv lv : Value} (h : Wr B W P nd ns l nv lv) {lv' : Value} {l' : List UInt8} {n : Nat} (hn : n = l'.length) (ho : W'.ownsRow B 5 1 lv' n (Lx.bv l')) (hg : W.grownBy W' lv.ownBlock) : Wr B (W'.setCell ⟨P, 2, none⟩ lv') P nd ns l' nv lv' ∧ Below B W (W'.setCell ⟨P, 2, none⟩ lv') ∧ Oth W (W'.setCell ⟨P, 2, none⟩ lv') := by
  subst hn
  have f : Full W' P 110 [.int .i64 nd, nv, lv] := h.box.grow h.laid (by decide) hg
  have o := own_grow h.names h.laid (by decide) hg
  have b : Below B W W' := (Below.refl B W).grown hg h.size (own_ge h.laid)
  exact ⟨⟨h.low, Full.put1 (a := [.int .i64 nd, nv]) (d := []) f lv', own_oth o f (by decide) 2 lv', own_oth ho f (by decide) 2 lv'⟩, b.setCell (p := ⟨P, 2, none⟩) h.low lv', fun g t vs fg h1 h2 h3 => (fg.grow h.laid (Ne.symm h1) hg).other1 (fg.grow h.laid (Ne.symm h1) hg |>.ne f h3)⟩
/-- A name more. -/
theorem Wr.name {B : Nat} {W W' : World} {P : Nat} {nd : Int} {ns : List (List UInt8)} {l : List UInt8} {nv lv : Value} (h : Wr B W P nd ns l nv lv) {nv' : Value} {x : List UInt8} (ho : W'.ownsRow B 9 1 nv' (ns.length + 1) (ns.map sV ++ [sV x])) (hg : W.grownBy W' nv.ownBlock) : Wr B (W'.setCell ⟨P, 1, none⟩ nv') P nd (ns ++ [x]) l nv' lv ∧ Below B W (W'.setCell ⟨P, 1, none⟩ nv') ∧ Oth W (W'.setCell ⟨P, 1, none⟩ nv') := by
  have f : Full W' P 110 [.int .i64 nd, nv, lv] := h.box.grow h.names (by decide) hg
  have o := own_grow h.laid h.names (by decide) hg
  have b : Below B W W' := (Below.refl B W).grown hg h.size (own_ge h.names)
  have ho' : W'.ownsRow B 9 1 nv' (ns ++ [x]).length ((ns ++ [x]).map sV) := by simpa using ho
  exact ⟨⟨h.low, Full.put1 (a := [.int .i64 nd]) (d := [lv]) f nv', own_oth ho' f (by decide) 1 nv', own_oth o f (by decide) 1 nv'⟩, b.setCell (p := ⟨P, 1, none⟩) h.low nv', fun g t vs fg h1 h2 h3 => (fg.grow h.names (Ne.symm h2) hg).other1 (fg.grow h.names (Ne.symm h2) hg |>.ne f h3)⟩
/-- Another node. -/
theorem Wr.node {B : Nat} {W : World} {P : Nat} {nd : Int} {ns : List (List UInt8)} {l : List UInt8} {nv lv : Value} (h : Wr B W P nd ns l nv lv) (nd' : Int) : Wr B (W.setCell ⟨P, 0, none⟩ (.int .i64 nd')) P nd' ns l nv lv ∧ Below B W (W.setCell ⟨P, 0, none⟩ (.int .i64 nd')) ∧ Oth W (W.setCell ⟨P, 0, none⟩ (.int .i64 nd')) :=
  ⟨⟨h.low, Full.put1 (a := []) (d := [nv, lv]) h.box (.int .i64 nd'), own_oth h.names h.box (by decide) 0 _, own_oth h.laid h.box (by decide) 0 _⟩, (Below.refl B W).setCell (p := ⟨P, 0, none⟩) h.low _, fun _ _ _ fg _ _ h3 => fg.other1 (fg.ne h.box h3)⟩
/-- A writer, wherever its rows lie. -/
def WrS (B : Nat) (W : World) (P : Nat) (nd : Int) (ns : List (List UInt8)) (l : List UInt8) : Prop := ∃ nv lv, Wr B W P nd ns l nv lv
theorem WrS.next {B : Nat} {W W' : World} {P : Nat} {nd : Int} {ns : List (List UInt8)} {l : List UInt8} (h : WrS B W P nd ns l) (k : Below W.heap.size W W') : WrS B W' P nd ns l := by
  obtain ⟨nv, lv, h⟩ := h
  exact ⟨nv, lv, h.next k⟩
theorem WrS.size {B : Nat} {W : World} {P : Nat} {nd : Int} {ns : List (List UInt8)} {l : List UInt8} (h : WrS B W P nd ns l) : B ≤ W.heap.size := by
  obtain ⟨nv, lv, h⟩ := h
  exact h.size
/-- What is known of a writer behind a call. -/
def WrQ (B : Nat) (W : World) (P : Nat) (nd : Int) (ns : List (List UInt8)) (l : List UInt8) (W' : World) : Prop := Hid (WrS B W' P nd ns l ∧ Below B W W' ∧ Oth W W')
theorem WrQ.of {B : Nat} {W W' : World} {P : Nat} {nd : Int} {ns : List (List UInt8)} {l : List UInt8} (h : WrS B W P nd ns l) (k : Below W.heap.size W W') : WrQ B W P nd ns l W' := ⟨h.next k, k.mono h.size, Oth.of k⟩
theorem WrQ.trans {B : Nat} {a b c : World} {P : Nat} {nd nd' : Int} {ns ns' : List (List UInt8)} {l l' : List UInt8} (h : WrQ B a P nd ns l b) (k : WrQ B b P nd' ns' l' c) : WrQ B a P nd' ns' l' c := ⟨k.out.1, h.out.2.1.trans k.out.2.1, h.out.2.2.trans k.out.2.2⟩
/-- An append whose run is known, for the walk: of whatever types. -/
theorem wpList_run {P : Program} {w : World} {ops : Array Oper} {rest : List Oper} {o : Oper} {a : Act} {Q : Exit → Act → World → Prop} {v' : Value} {w' : World} (hgd : o.guard = none) (s x : Operand) (t u y : TypeId) (vs vx : Value)
    (hr : (Builtin.append_ #[t, u] y #[vs, vx]).run P w = .ok v' w') (ho : o.op = .call { callee := .builtin .append, args := #[s, x], argTypes := #[t, u] }) (hy : o.type = y) (hs : a.eval s = vs) (hx : a.eval x = vx)
    (h : wpList P ops Q rest (a.put o.dst v') w') : wpList P ops Q (o :: rest) a w := by
  subst hy hs hx
  refine wpList_plain hgd fun K hK => ?_
  unfold Oper.wp execOp
  simp only [ho, resolve, invoke, builtin, Sem.run_bind, Sem.run_pure, Result.andThen_ok, List.map_toArray, List.map_cons, List.map_nil, hr]
  exact hK _ _ h
theorem infoS : (Tryd.prog.info? 9).map (fun i => (i.zero, i.size, i.bytes)) = some (some (.string ⟨#[]⟩), 1, 16) := by kernel_rfl
end Go.Proofs.YtdmiciblfbkndaaDoor

namespace Go.Proofs.YtdmiciblfbkndaaDoor
open Go.RowKit

/-- The run of an append of one byte to the writer's row. -/
theorem Wr.one {B : Nat} {W : World} {P : Nat} {nd : Int} {ns : List (List UInt8)} {l : List UInt8} {nv lv : Value} (h : Wr B W P nd ns l nv lv) (c : UInt8) (hl : l.length + 1 ≤ 100000000) : ∃ q cp w2,
    (Builtin.append_ #[75, 75] 75 #[lv, .slice (some ⟨W.heap.size, 0, none⟩) 1 1]).run Tryd.prog (W.alloc (.cells #[.int .u8 (c.toNat : Int)] 5)) = .ok (.slice q (l.length + 1) cp) w2 ∧
    w2.cell? ⟨P, 2, none⟩ = some lv ∧ w2.frozen? ⟨P, 2, none⟩ = false ∧ Hid (Wr B (w2.setCell ⟨P, 2, none⟩ (.slice q (l.length + 1) cp)) P nd ns (l ++ [c]) nv (.slice q (l.length + 1) cp) ∧ Below B W (w2.setCell ⟨P, 2, none⟩ (.slice q (l.length + 1) cp)) ∧ Oth W (w2.setCell ⟨P, 2, none⟩ (.slice q (l.length + 1) cp))) := by
  have bZ : Below W.heap.size W (W.alloc (.cells #[.int .u8 (c.toNat : Int)] 5)) := (Below.refl _ W).alloc (Nat.le_refl _) _
  have hZ := h.next bZ
  have fZ : Full (W.alloc (.cells #[.int .u8 (c.toNat : Int)] 5)) W.heap.size 5 [.int .u8 (c.toNat : Int)] := Full.new W _ _
  obtain ⟨lv', w2, r9, o9, g9⟩ := app_any (P := Tryd.prog) 75 75 _ 1 Tryd.underlying75 Lx.info5 rfl (by decide) (by decide) lv l.length _ hZ.laid W.heap.size [.int .u8 (c.toNat : Int)] rfl (by simp [Value.oneCell']) fZ.range (by omega) hZ.size
  obtain ⟨q9, k9, rfl, -, -⟩ := own_slice o9
  have o9' : w2.ownsRow B 5 1 (.slice q9 (l.length + 1) k9) (l.length + 1) (Lx.bv (l ++ [c])) := by rw [Lx.bv_app]; exact o9
  obtain ⟨k1, k2, k3⟩ := hZ.more (l' := l ++ [c]) (by simp) o9' g9
  have f9 := (hZ.box.grow hZ.laid (by decide) g9).three
  exact ⟨q9, k9, w2, r9, f9.2.2.1, f9.2.2.2, k1, (bZ.mono h.size).trans k2, (Oth.of bZ).trans k3⟩
/-- The run of an append of a text to the writer's row. -/
theorem Wr.txt {B : Nat} {W : World} {P : Nat} {nd : Int} {ns : List (List UInt8)} {l : List UInt8} {nv lv : Value} (h : Wr B W P nd ns l nv lv) (s : ByteArray) (hl : l.length + s.size ≤ 100000000) : ∃ q cp w2,
    (Builtin.append_ #[75, 9] 75 #[lv, .string s]).run Tryd.prog W = .ok (.slice q (l.length + s.size) cp) w2 ∧
    w2.cell? ⟨P, 2, none⟩ = some lv ∧ w2.frozen? ⟨P, 2, none⟩ = false ∧ Hid (Wr B (w2.setCell ⟨P, 2, none⟩ (.slice q (l.length + s.size) cp)) P nd ns (l ++ s.data.toList) nv (.slice q (l.length + s.size) cp) ∧ Below B W (w2.setCell ⟨P, 2, none⟩ (.slice q (l.length + s.size) cp)) ∧ Oth W (w2.setCell ⟨P, 2, none⟩ (.slice q (l.length + s.size) cp))) := by
  obtain ⟨i, hi, hz0, hz1, hz2⟩ := info_parts Lx.info5
  obtain ⟨lv', w2, hr, h2, h3, -⟩ := Lib.run_append_own_string (P := Tryd.prog) W B 75 9 75 5 i Tryd.underlying75 Tryd.underlying9 hi hz0 hz1 hz2 lv l.length (Lx.bv l) h.laid s (by unfold maxLen; omega) (by omega) h.size
  obtain ⟨q9, k9, rfl, -, -⟩ := own_slice h2
  have o9' : w2.ownsRow B 5 1 (.slice q9 (l.length + s.size) k9) (l.length + s.size) (Lx.bv (l ++ s.data.toList)) := by
    have e : Lib.strCells s = Lx.bv s.data.toList := by
      first | rfl | (unfold Lib.strCells Lx.bv; rfl) | (unfold Lib.strCells Lx.bv; simp)
    rw [Lx.bv_app, ← e]
    exact h2
  obtain ⟨k1, k2, k3⟩ := h.more (l' := l ++ s.data.toList) (by rw [List.length_append, ← Lib.size_eq]) o9' h3
  have f9 := (h.box.grow h.laid (by decide) h3).three
  exact ⟨q9, k9, w2, hr, f9.2.2.1, f9.2.2.2, k1, k2, k3⟩

set_option maxRecDepth 100000 in
theorem wbyte {B : Nat} {W : World} {P : Nat} {nd : Int} {ns : List (List UInt8)} {l : List UInt8} (h : WrS B W P nd ns l) (c : UInt8) (n : Int) (hc : n = (c.toNat : Int)) (hl : l.length + 1 ≤ 100000000) :
    Calls Tryd.prog 56 #[.pointer (some ⟨P, 0, none⟩), .int .u8 n] W fun e w' => e = .returned (.tuple #[]) ∧ WrQ B W P nd ns (l ++ [c]) w' := by
  subst hc
  obtain ⟨nv, lv, h⟩ := h
  obtain ⟨q, cp, w2, hr, hc1, hc2, HK⟩ := h.one c hl
  obtain ⟨-, -, hc0, hf0⟩ := h.box.three
  clear h hl
  go_enter Tryd.func56, Tryd.ntmps56
  go_wp2_with (at_builtin; refine wpList_run rfl _ _ _ _ _ _ _ hr (by rfl) (by rfl) (by rfl) (by rfl) ?_)
  go_end0
  exact ⟨rfl, ⟨_, _, HK.out.1⟩, HK.out.2⟩
set_option maxRecDepth 100000 in
theorem wbytes {B : Nat} {W : World} {P : Nat} {nd : Int} {ns : List (List UInt8)} {l : List UInt8} (h : WrS B W P nd ns l) (s : ByteArray) (hl : l.length + s.size ≤ 100000000) :
    Calls Tryd.prog 82 #[.pointer (some ⟨P, 0, none⟩), .string s] W fun e w' => e = .returned (.tuple #[]) ∧ WrQ B W P nd ns (l ++ s.data.toList) w' := by
  obtain ⟨nv, lv, h⟩ := h
  obtain ⟨q, cp, w2, hr, hc1, hc2, HK⟩ := h.txt s hl
  obtain ⟨-, -, hc0, hf0⟩ := h.box.three
  clear h hl
  go_enter Tryd.func82, Tryd.ntmps82
  go_wp2_with (at_builtin; refine wpList_run rfl _ _ _ _ _ _ _ hr (by rfl) (by rfl) (by rfl) (by rfl) ?_)
  go_end0
  exact ⟨rfl, ⟨_, _, HK.out.1⟩, HK.out.2⟩
end Go.Proofs.YtdmiciblfbkndaaDoor

namespace Go.Proofs.YtdmiciblfbkndaaDoor
open Go.RowKit

theorem or128 (m : Nat) : bits .or .u8 ((m : Int) % 256) 128 = ((UInt8.ofNat (m % 128 + 128)).toNat : Int) := by
  have h : ∀ x : Fin 256, bits .or .u8 (((x : Nat) : Int)) 128 = (((x : Nat) % 128 + 128 : Nat) : Int) := by decide +kernel
  have h2 := h ⟨m % 256, by omega⟩
  simp only at h2
  rw [show ((m : Int) % 256) = ((m % 256 : Nat) : Int) by omega, h2, UInt8.toNat_ofNat']
  omega
theorem numS_small {n : Nat} (h : n < 128) : numS n = [UInt8.ofNat n] := by unfold numS; rw [if_pos h]
theorem numS_big {n : Nat} (h : ¬ n < 128) : numS n = UInt8.ofNat (n % 128 + 128) :: numS (n / 128) := by conv => lhs; unfold numS; rw [if_neg h]
theorem numS_le : ∀ (k n : Nat), n < 128 ^ (k + 1) → (numS n).length ≤ k + 1 := by
  intro k
  induction k with
  | zero =>
    intro n h
    rw [numS_small (by simpa using h)]
    simp
  | succ k ih =>
    intro n h
    by_cases h1 : n < 128
    · rw [numS_small h1]; simp
    · rw [numS_big h1]
      simp only [List.length_cons]
      have := ih (n / 128) (by rw [Nat.pow_succ] at h; exact Nat.div_lt_of_lt_mul (by omega))
      omega
theorem numS_le10 (n : Nat) (h : n < 18446744073709551616) : (numS n).length ≤ 10 := numS_le 9 n (Nat.lt_of_lt_of_le h (by decide))
set_option maxRecDepth 100000 in
theorem wnumber {B : Nat} {W : World} {P : Nat} {nd : Int} {ns : List (List UInt8)} {l : List UInt8} (h : WrS B W P nd ns l) (n : Nat) (hn : n < 18446744073709551616) (hl : l.length + 20 ≤ 100000000) :
    Calls Tryd.prog 81 #[.pointer (some ⟨P, 0, none⟩), .int .u64 (n : Int)] W fun e w' => e = .returned (.tuple #[]) ∧ WrQ B W P nd ns (l ++ numS n) w' := by
  have HB : WrQ B W P nd ns l W := WrQ.of h (Below.refl _ _)
  have HS : Hid (B ≤ W.heap.size) := h.size
  have HL : Hid (l.length + (numS n).length ≤ 99999999) := by have := numS_le10 n hn; show l.length + (numS n).length ≤ 99999999; omega
  clear h hl
  go_enter Tryd.func81, Tryd.ntmps81
  go_wp2_with fail
  go_loopw [1] (fun v wr => ∃ (m : Nat) (l' : List UInt8), v = .int .u64 (m : Int) ∧ m ≤ n ∧ Hid (l ++ numS n = l' ++ numS m) ∧ WrQ B W P nd ns l' wr) (fun v _ => (intOf v).toNat)
  case atStart => exact ⟨n, l, rfl, Nat.le_refl _, rfl, HB⟩
  case round =>
    obtain ⟨m, l', rfl, hm, HE, HBm⟩ := hrel
    have hle : l'.length + (numS m).length ≤ 99999999 := by
      have h1 := congrArg List.length HE.out
      rw [List.length_append, List.length_append] at h1
      have := HL.out
      omega
    by_cases hs : m < 128
    · have qs : ¬ (128 : Int) ≤ (m : Int) := by omega
      have hl1 : l'.length + 1 ≤ 100000000 := by omega
      have HC := wbyte HBm.out.1 (UInt8.ofNat m) (m : Int) (by rw [UInt8.toNat_ofNat']; omega) hl1
      have HN : Hid (l ++ numS n = l' ++ [UInt8.ofNat m]) := by show _ = _; rw [HE.out, numS_small hs]
      clear hs hle hl1 HE
      go_wp2_with fail
      refine HC.mono ?_
      rintro e w2 ⟨rfl, hw2⟩
      clear HC
      have HK : WrQ B W P nd ns (l ++ numS n) w2 := by
        rw [HN.out]
        exact HBm.trans hw2
      go_wp2
      go_end0
      exact ⟨rfl, HK⟩
    · have qs : (128 : Int) ≤ (m : Int) := by omega
      have qz : (0 : Int) ≤ (m : Int) := by omega
      have hne : numS m = UInt8.ofNat (m % 128 + 128) :: numS (m / 128) := numS_big hs
      have hl1 : l'.length + 1 ≤ 100000000 := by rw [hne, List.length_cons] at hle; omega
      have HC := wbyte HBm.out.1 (UInt8.ofNat (m % 128 + 128)) (bits .or .u8 ((m : Int) % 256) 128) (or128 m) hl1
      have HN : Hid (l ++ numS n = (l' ++ [UInt8.ofNat (m % 128 + 128)]) ++ numS (m / 128)) := by show _ = _; rw [HE.out, hne]; simp
      have hm64 : (m : Int) < 18446744073709551616 := by omega
      clear hs hle hl1 HE hne
      go_wp2_with fail
      refine HC.mono ?_
      rintro e w2 ⟨rfl, hw2⟩
      clear HC
      have HB2 := HBm.trans hw2
      clear hw2 HBm
      go_wp2
      exact ⟨⟨m / 128, _, by go_num, by omega, HN.out, HB2⟩, by simp [intOf]; omega⟩
end Go.Proofs.YtdmiciblfbkndaaDoor

namespace Go.Proofs.YtdmiciblfbkndaaDoor
open Go.RowKit

theorem xor_ones (a : Int) (h0 : 0 ≤ a) (h1 : a < 18446744073709551616) : bits .xor .u64 a 18446744073709551615 = 18446744073709551615 - a := by
  unfold bits
  show IntKind.u64.wrap (((BitVec.ofInt 64 a ^^^ BitVec.ofInt 64 18446744073709551615).toNat : Nat) : Int) = _
  rw [show BitVec.ofInt 64 18446744073709551615 = BitVec.allOnes 64 from rfl, BitVec.xor_allOnes, BitVec.toNat_not, BitVec.toNat_ofInt, IntKind.wrap_u64]
  have : (2 : Nat) ^ 64 = 18446744073709551616 := by decide
  omega
theorem xor_none (a : Int) (h0 : 0 ≤ a) (h1 : a < 18446744073709551616) : bits .xor .u64 a 0 = a := by
  unfold bits
  show IntKind.u64.wrap (((BitVec.ofInt 64 a ^^^ BitVec.ofInt 64 0).toNat : Nat) : Int) = _
  rw [show BitVec.ofInt 64 0 = 0#64 from rfl, BitVec.xor_zero, BitVec.toNat_ofInt, IntKind.wrap_u64]
  have : (2 : Nat) ^ 64 = 18446744073709551616 := by decide
  omega
theorem xor_zz (n : Int) (hn : -9223372036854775808 ≤ n ∧ n ≤ 9223372036854775807) : bits BinOp.xor IntKind.u64 (IntKind.u64.wrap (wrap64 (n * 2))) (IntKind.u64.wrap (n / 9223372036854775808)) = ((zz n : Nat) : Int) := by
  have e1 : IntKind.u64.wrap (wrap64 (n * 2)) = (n * 2) % 18446744073709551616 := by rw [IntKind.wrap_u64]; unfold wrap64; omega
  rw [e1]
  by_cases h : n < 0
  · rw [show IntKind.u64.wrap (n / 9223372036854775808) = 18446744073709551615 by rw [IntKind.wrap_u64]; omega, xor_ones _ (by omega) (by omega)]
    unfold zz
    rw [if_pos h]
    omega
  · rw [show IntKind.u64.wrap (n / 9223372036854775808) = 0 by rw [IntKind.wrap_u64]; omega, xor_none _ (by omega) (by omega)]
    unfold zz
    rw [if_neg h]
    omega
set_option maxRecDepth 100000 in
theorem wsigned {B : Nat} {W : World} {P : Nat} {nd : Int} {ns : List (List UInt8)} {l : List UInt8} (h : WrS B W P nd ns l) (n : Int) (hn : -9223372036854775808 ≤ n ∧ n ≤ 9223372036854775807) (hl : l.length + 20 ≤ 100000000) :
    Calls Tryd.prog 72 #[.pointer (some ⟨P, 0, none⟩), .int .i64 n] W fun e w' => e = .returned (.tuple #[]) ∧ WrQ B W P nd ns (l ++ sgnS n) w' := by
  have HC := wnumber h (zz n) (by unfold zz; split <;> omega) hl
  have HX : Hid (bits BinOp.xor IntKind.u64 (IntKind.u64.wrap (wrap64 (n * 2))) (IntKind.u64.wrap (n / 9223372036854775808)) = ((zz n : Nat) : Int)) := xor_zz n hn
  clear h hl hn
  go_enter Tryd.func72, Tryd.ntmps72
  go_wp2_with fail
  rw [HX.out]
  refine HC.mono ?_
  rintro e w2 ⟨rfl, hw2⟩
  clear HC
  go_wp2
  go_end0
  exact ⟨rfl, hw2⟩
end Go.Proofs.YtdmiciblfbkndaaDoor

namespace Go.Proofs.YtdmiciblfbkndaaDoor
open Go.RowKit

theorem idx_hit (L : List (List UInt8)) (i : Nat) (x : List UInt8) (h : x ∉ L.take i) (hx : L[i]? = some x) : x ∈ L ∧ L.idxOf x = i := by
  obtain ⟨hl, he⟩ := List.getElem?_eq_some_iff.1 hx
  refine ⟨he ▸ List.getElem_mem hl, ?_⟩
  have e : L.drop i = x :: L.drop (i + 1) := by rw [List.drop_eq_getElem_cons hl, he]
  rw [← List.take_append_drop i L, List.idxOf_append, if_neg h, e, List.idxOf_cons_self, List.length_take]
  omega
theorem take_in (L : List (List UInt8)) (i : Nat) (x y : List UInt8) (h : x ∉ L.take i) (hy : L[i]? = some y) (hne : x ≠ y) : x ∉ L.take (i + 1) := by
  rw [List.take_add_one, hy]
  simp only [Option.toList_some, List.mem_append, List.mem_singleton, not_or]
  exact ⟨h, hne⟩
/-- What Index answers. -/
def ixV (L : List (List UInt8)) (x : List UInt8) : Int := if x ∈ L then (L.idxOf x : Int) else -1
theorem toL (x : ByteArray) : x.toList = x.data.toList := by
  rw [ByteArray.toList_eq]
set_option maxRecDepth 100000 in
theorem index_any (W : World) (q : Option Addr) (cap : Nat) (L : List (List UInt8)) (x : ByteArray) (hR : Row W W.heap.size q L.length (L.map sV)) (hb : L.length ≤ 1000) :
    Calls Tryd.prog 93 #[.slice q L.length cap, .string x] W fun e w' => e = .returned (.int .i64 (ixV L x.data.toList)) ∧ w' = W := by
  obtain ⟨n, hn⟩ : ∃ n, L.length = n := ⟨_, rfl⟩
  rw [hn] at hR hb ⊢
  have HR : Hid (Row W W.heap.size q n (L.map sV)) := hR
  have HN : Hid (L.length = n) := hn
  clear hR hn
  go_enter Tryd.func93, Tryd.ntmps93
  go_wp2_with fail
  go_loopw [8] (fun v wr => ∃ (i : Nat), v = .int .i64 (i : Int) ∧ i ≤ n ∧ wr = W ∧ Hid (x.data.toList ∉ L.take i)) (fun v _ => n - (intOf v).toNat)
  case atStart => exact ⟨0, rfl, Nat.zero_le _, rfl, by show _ ∉ _; simp⟩
  case round =>
    obtain ⟨i, rfl, hi, rfl, HX⟩ := hrel
    by_cases hlt : i < n
    · have qi : (i : Int) < (n : Int) := by omega
      have q0 : (0 : Int) ≤ (i : Int) := by omega
      obtain ⟨y, hy⟩ : ∃ y, L[i]? = some y := ⟨L[i]'(by rw [HN.out]; exact hlt), List.getElem?_eq_getElem _⟩
      obtain ⟨yb, hyb⟩ : ∃ b : ByteArray, b.data.toList = y := ⟨⟨y.toArray⟩, rfl⟩
      obtain ⟨g, o, rfl, -, hrg⟩ := HR.out (by omega)
      have cy : wr.cell? ⟨g, o + i, none⟩ = some (.string yb) := hrg i (.string yb) (by rw [List.getElem?_map, hy, ← hyb]; rfl)
      by_cases he : x.data.toList = y
      · have qe : (x.toList == yb.toList) = true := by rw [toL, toL, hyb, he]; exact beq_self_eq_true _
        obtain ⟨k1, k2⟩ := idx_hit L i x.data.toList HX.out (by rw [hy, he])
        have HV : Hid (ixV L x.data.toList = (i : Int)) := by show ixV _ _ = _; unfold ixV; rw [if_pos k1, k2]
        clear HR HX hrg hy hyb he k1 k2 hi
        go_wp2
        go_ret
        exact ⟨by rw [HV.out]; rfl, rfl⟩
      · have qe : (x.toList == yb.toList) = false := by rw [toL, toL, hyb, beq_eq_false_iff_ne]; exact he
        have HX2 : Hid (x.data.toList ∉ L.take (i + 1)) := take_in L i _ y HX.out hy he
        clear HX hrg hy hyb he
        go_wp2
        exact ⟨⟨i + 1, by go_num, by omega, trivial, HX2⟩, by simp [intOf]; omega⟩
    · obtain rfl : i = n := by omega
      have qi : ¬ (i : Int) < (i : Int) := by omega
      have HV : Hid (ixV L x.data.toList = -1) := by
        have := HX.out
        rw [← HN.out, List.take_length] at this
        show ixV _ _ = _
        unfold ixV
        rw [if_neg this]
      clear HR HX hi hlt
      go_wp2
      go_ret
      exact ⟨by rw [HV.out]; rfl, rfl⟩
end Go.Proofs.YtdmiciblfbkndaaDoor

namespace Go.Proofs.YtdmiciblfbkndaaDoor
open Go.RowKit

/-- No event. -/
def EvZ : List Value := [.int .i64 0, .int .i64 0, .string ⟨#[]⟩, .int .i64 0, .int .i64 0, .string ⟨#[]⟩]
theorem Full.six2 {W : World} {g : Nat} {t : TypeId} {a b c d e f : Value} (h : Full W g t [a, b, c, d, e, f]) : ((W.cell? ⟨g, 0, none⟩ = some a ∧ W.frozen? ⟨g, 0, none⟩ = false) ∧ (W.cell? ⟨g, 1, none⟩ = some b ∧ W.frozen? ⟨g, 1, none⟩ = false) ∧ W.cell? ⟨g, 2, none⟩ = some c ∧ W.frozen? ⟨g, 2, none⟩ = false) ∧ (W.cell? ⟨g, 3, none⟩ = some d ∧ W.frozen? ⟨g, 3, none⟩ = false) ∧ (W.cell? ⟨g, 4, none⟩ = some e ∧ W.frozen? ⟨g, 4, none⟩ = false) ∧ W.cell? ⟨g, 5, none⟩ = some f ∧ W.frozen? ⟨g, 5, none⟩ = false :=
  ⟨⟨h.cell 0 _ rfl, h.cell 1 _ rfl, h.cell 2 _ rfl⟩, h.cell 3 _ rfl, h.cell 4 _ rfl, h.cell 5 _ rfl⟩
end Go.Proofs.YtdmiciblfbkndaaDoor
