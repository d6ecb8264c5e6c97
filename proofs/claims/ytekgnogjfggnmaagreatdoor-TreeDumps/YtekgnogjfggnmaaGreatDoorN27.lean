import Derived.Lib.ItoaLen
import Derived.Lib.QuietBelow
import Derived.Test.YtekgnogjfggnmaaGreatDoorN14
import Derived.Test.YtekgnogjfggnmaaGreatDoorN09
import Derived.Test.YtekgnogjfggnmaaGreatDoorN16
namespace Go.Proofs.YtekgnogjfggnmaaGreatDoor
open Go.RowKit Go.Shelf
set_option maxRecDepth 100000
set_option maxHeartbeats 1000000
def wds : List ByteArray := [⟨#[]⟩, ⟨#[112, 114, 111, 103, 114, 97, 109]⟩, ⟨#[102, 110]⟩, ⟨#[112, 97, 114, 97, 109]⟩, ⟨#[98, 108, 111, 99, 107]⟩, ⟨#[118, 97, 114]⟩, ⟨#[97, 115, 115, 105, 103, 110]⟩, ⟨#[105, 102]⟩, ⟨#[119, 104, 105, 108, 101]⟩, ⟨#[102, 111, 114]⟩, ⟨#[98, 114, 101, 97, 107]⟩, ⟨#[99, 111, 110, 116, 105, 110, 117, 101]⟩, ⟨#[114, 101, 116, 117, 114, 110]⟩, ⟨#[112, 114, 105, 110, 116]⟩, ⟨#[114, 101, 97, 100]⟩, ⟨#[100, 111]⟩, ⟨#[104, 111, 111, 107]⟩, ⟨#[]⟩, ⟨#[]⟩, ⟨#[]⟩, ⟨#[105, 110, 116]⟩, ⟨#[98, 111, 111, 108]⟩, ⟨#[116, 101, 120, 116]⟩, ⟨#[110, 97, 109, 101]⟩, ⟨#[105, 110, 100, 101, 120]⟩, ⟨#[99, 97, 108, 108]⟩, ⟨#[117, 110, 97, 114, 121]⟩, ⟨#[98, 105, 110, 97, 114, 121]⟩, ⟨#[110, 101, 119]⟩, ⟨#[108, 101, 110]⟩, ⟨#[115, 116, 114]⟩]
def sgT : List ByteArray := [⟨#[]⟩, ⟨#[45]⟩, ⟨#[33]⟩, ⟨#[43]⟩, ⟨#[45]⟩, ⟨#[42]⟩, ⟨#[47]⟩, ⟨#[37]⟩, ⟨#[61, 61]⟩, ⟨#[33, 61]⟩, ⟨#[60]⟩, ⟨#[60, 61]⟩, ⟨#[62]⟩, ⟨#[62, 61]⟩, ⟨#[38, 38]⟩, ⟨#[124, 124]⟩]
def Tab10 (W : World) : Prop := Lib.TabIs Tryz.prog W "internal/strconv.uint64pow10" .u64 Lib.pow10Tab
theorem g10 : Tryz.prog.globalNamed "internal/strconv.uint64pow10" = some 6 := by kernel_rfl
structure DTab (W : World) : Prop where
 wd : ∀ k, k < 31 → W.cell? ⟨1, k, none⟩ = some (.string (wds.getD k ByteArray.empty))
 sg : ∀ k, k < 16 → W.cell? ⟨2, k, none⟩ = some (.string (sgT.getD k ByteArray.empty))
 ten : Tab10 W
theorem Tab10.on {W W' : World} {B : Nat} (h : Tab10 W) (hb : Below B W W') (hB : 15 ≤ B) : Tab10 W' := by
 unfold Tab10 Lib.TabIs World.var? at h ⊢
 simp only [g10, Option.bind_some] at h ⊢
 rw [hb.block 6 (by omega)]
 exact h
theorem DTab.on {W W' : World} {B : Nat} (h : DTab W) (hb : Below B W W') (hB : 15 ≤ B) : DTab W' :=
 ⟨fun k hk => (hb.cell (p := ⟨1, k, none⟩) (by show 1 < B; omega)).trans (h.wd k hk), fun k hk => (hb.cell (p := ⟨2, k, none⟩) (by show 2 < B; omega)).trans (h.sg k hk), h.ten.on hb hB⟩
theorem fmt_any (n : Int) (w : World) (h0 : -9223372036854775808 ≤ n) (h1 : n ≤ 9223372036854775807) (ht : Tab10 w) :
 Calls Tryz.prog 41 #[.int .i64 n, .int .i64 10] w fun e w' => e = .returned (.string ⟨(Lib.itoa n).toArray⟩) ∧ Below w.heap.size w w' := by
 refine (Tryz.strconv_FormatInt_10 n h0 h1 w ht).mono ?_
 rintro e w' ⟨rfl, k, os, rfl⟩
 exact ⟨rfl, below_regrown w (w.drawn + k) os⟩
theorem itoa_any (n : Int) (w : World) (h0 : -9223372036854775808 ≤ n) (h1 : n ≤ 9223372036854775807) (ht : Tab10 w) :
 Calls Tryz.prog 23 #[.int .i64 n] w fun e w' => e = .returned (.string ⟨(Lib.itoa n).toArray⟩) ∧ Below w.heap.size w w' := by
 refine (Tryz.strconv_Itoa n h0 h1 w ht).mono ?_
 rintro e w' ⟨rfl, k, os, rfl⟩
 exact ⟨rfl, below_regrown w (w.drawn + k) os⟩
def Kp (B : Nat) (w w' : World) : Prop := Below B w w' ∧ Lib.OthersKept 5 none w w'
theorem Kp.refl (B : Nat) (w : World) : Kp B w w := ⟨Below.refl _ _, Lib.OthersKept.refl _ _ _⟩
theorem Kp.trans {B : Nat} {a b c : World} (h : Kp B a b) (k : Kp B b c) : Kp B a c := ⟨h.1.trans k.1, h.2.trans k.2⟩
theorem Kp.size {B : Nat} {a b : World} (h : Kp B a b) : a.heap.size ≤ b.heap.size := h.1.size
theorem Kp.of_below {B : Nat} {w w' : World} (h : Below w.heap.size w w') (hB : B ≤ w.heap.size) : Kp B w w' := ⟨h.mono hB, (Lib.OthersKept.refl _ _ _).below h⟩
theorem Kp.alloc {B : Nat} {a w : World} (h : Kp B a w) (hB : B ≤ w.heap.size) (o : Obj) : Kp B a (w.alloc o) := ⟨h.1.alloc hB o, h.2.alloc o⟩
theorem Kp.drew {B : Nat} {a w : World} (h : Kp B a w) : Kp B a w.drew := ⟨h.1.drew, h.2.drew⟩
theorem Kp.block {B : Nat} {w w' : World} (h : Kp B w w') {k : Nat} {c : Array Value} {t : TypeId} {fz : Nat × Nat} (hk : w.heap[k]? = some (.cells c t fz)) (ht : t ≠ 5) : w'.heap[k]? = some (.cells c t fz) :=
 h.2 k _ hk (by simp) (fun c' fz' e => ht (by injection e))
theorem Kp.cell {B : Nat} {w w' : World} (h : Kp B w w') {k : Nat} {c : Array Value} {t : TypeId} {fz : Nat × Nat} (hk : w.heap[k]? = some (.cells c t fz)) (ht : t ≠ 5) (o : Nat) : w'.cell? ⟨k, o, none⟩ = w.cell? ⟨k, o, none⟩ :=
 World.cell?_of_block (a := ⟨k, o, none⟩) ((h.block hk ht).trans hk.symm)
theorem Kp.owns {B : Nat} {w w' : World} (h : Kp B w w') {b size n : Nat} {t : TypeId} {v : Value} {xs : List Value} (ho : w.ownsRow b t size v n xs) (ht : t ≠ 5) : w'.ownsRow b t size v n xs := by
 refine ⟨ho.1, ?_⟩
 rcases ho.2 with hn | ⟨g, cap, cur, rfl, hb, hgg, rest⟩
 ·exact .inl hn
 ·exact .inr ⟨g, cap, cur, rfl, hb, h.block hgg ht, rest⟩
def BRow (W : World) (B : Nat) (v : Value) (l : List UInt8) : Prop := W.ownsRow B 5 1 v l.length (Lx.bv l)
theorem appInt_any (B : Nat) (i : Int) (sv : Value) (l : List UInt8) (w : World) (h0 : -9223372036854775808 ≤ i) (h1 : i ≤ 9223372036854775807) (ho : BRow w B sv l) (hB : B ≤ w.heap.size) (hB7 : 15 ≤ B) (hl : l.length + 21 ≤ 1099511627776) (ht : Tab10 w) :
 Calls Tryz.prog 32 #[sv, .int .i64 i, .int .i64 10] w fun e w' => ∃ v', e = .returned v' ∧ Hid (BRow w' B v' (l ++ Lib.itoa i)) ∧ Hid (Kp B w w') := by
 refine (Tryz.strconv_AppendInt_10 B l.length i h0 h1 sv _ w ho hB (by omega) (fun w' hb => ht.on hb hB7)).mono ?_
 rintro e w' ⟨v', rfl, ho', hb', hk'⟩
 refine ⟨v', rfl, ?_, ⟨hb', hk'⟩⟩
 show w'.ownsRow B 5 1 v' (l ++ Lib.itoa i).length (Lx.bv (l ++ Lib.itoa i))
 rw [Lx.bv_app, List.length_append]
 exact ho'
theorem run_appS {w : World} (ty : TypeId) {base : Nat} {v : Value} {l : List UInt8} (hown : BRow w base v l) (t : ByteArray) (h40 : l.length + t.size ≤ 1099511627776) (hbase : base ≤ w.heap.size) :
 ∃ v' w', (Builtin.append_ #[47, 9] ty #[v, .string t]).run Tryz.prog w = .ok v' w' ∧ BRow w' base v' (l ++ t.data.toList) ∧ Kp base w w' := by
 obtain ⟨i0, hi, hz0, hz1, hz2⟩ := info_parts Lx.info5
 obtain ⟨v', w', hr, h2, h3, _⟩ := Lib.run_append_own_string (P := Tryz.prog) w base 47 9 ty 5 i0 Tryz.underlying47 Tryz.underlying9 hi hz0 hz1 hz2 v l.length (Lx.bv l) hown t (by unfold maxLen; omega) (by omega) hbase
 refine ⟨v', w', hr, ?_, ⟨(Below.refl base w).grown h3 hbase (Lx.own_ge hown), (Lib.OthersKept.refl _ _ _).grown h3 (Lib.ownsRow_kind hown)⟩⟩
 show w'.ownsRow base 5 1 v' (l ++ t.data.toList).length (Lx.bv (l ++ t.data.toList))
 rw [Lx.bv_app, List.length_append, ← Lib.size_eq]
 exact h2
theorem wpList_appS {w : World} {ops : Array Oper} {rest : List Oper} {o : Oper} {a : Act} {Q : Exit → Act → World → Prop} (hgd : o.guard = none) (s x : Operand)
 (ho : o.op = .call { callee := .builtin .append, args := #[s, x], argTypes := #[47, 9] })
 (base : Nat) (v : Value) (l : List UInt8) (t : ByteArray) (hs : a.eval s = v) (hx : a.eval x = .string t) (hown : Hid (BRow w base v l)) (h40 : l.length + t.size ≤ 1099511627776) (hbase : base ≤ w.heap.size)
 (h : ∀ v' w', Hid (BRow w' base v' (l ++ t.data.toList)) → Hid (Kp base w w') → wpList Tryz.prog ops Q rest (a.put o.dst v') w') : wpList Tryz.prog ops Q (o :: rest) a w := by
 obtain ⟨v', w', hr, h2, h3⟩ := run_appS o.type hown.out t h40 hbase
 refine wpList_plain hgd fun K hK => ?_
 unfold Oper.wp execOp
 simp only [ho, resolve, invoke, builtin, Sem.run_bind, Sem.run_pure, Result.andThen_ok, List.map_toArray, List.map_cons, List.map_nil, hs, hx, hr]
 exact hK _ _ (h v' w' h2 h3)
theorem step_appS {w : World} {ops : Array Oper} {o : Oper} {a : Act} {K : Act → World → Prop} {Q : Exit → Act → World → Prop} {E : Prop} (hgd : o.guard = none) (s x : Operand)
 (ho : o.op = .call { callee := .builtin .append, args := #[s, x], argTypes := #[47, 9] })
 (base : Nat) (v : Value) (l : List UInt8) (t : ByteArray) (hs : a.eval s = v) (hx : a.eval x = .string t) (hown : Hid (BRow w base v l)) (h40 : l.length + t.size ≤ 1099511627776) (hbase : base ≤ w.heap.size)
 (h : ∀ v' w', Hid (BRow w' base v' (l ++ t.data.toList)) → Hid (Kp base w w') → K (a.put o.dst v') w') : if Region.wanted o (yielded ops a.tmps) = true then Oper.wp Tryz.prog o a w K Q else E := by
 have hw : Region.wanted o (yielded ops a.tmps) = true := by simp [Region.wanted, hgd]
 rw [if_pos hw]
 obtain ⟨v', w', hr, h2, h3⟩ := run_appS o.type hown.out t h40 hbase
 unfold Oper.wp execOp
 simp only [ho, resolve, invoke, builtin, Sem.run_bind, Sem.run_pure, Result.andThen_ok, List.map_toArray, List.map_cons, List.map_nil, hs, hx, hr]
 exact h v' w' h2 h3
theorem run_appC {w : World} (ty : TypeId) {base : Nat} {v : Value} {l : List UInt8} (hown : BRow w base v l) (c : UInt8) (h40 : l.length + 1 ≤ 1099511627776) (hbase : base ≤ w.heap.size) :
 ∃ v' w', (Builtin.append_ #[47, 47] ty #[v, .slice (some ⟨w.heap.size, 0, none⟩) 1 1]).run Tryz.prog (w.alloc (.cells #[.int .u8 (c.toNat : Int)] 5)) = .ok v' w' ∧ BRow w' base v' (l ++ [c]) ∧ Kp base w w' := by
 obtain ⟨i0, hi, hz0, hz1, hz2⟩ := info_parts Lx.info5
 have ho2 := World.ownsRow.alloc hown (.cells #[.int .u8 (c.toNat : Int)] 5)
 obtain ⟨v', w', hr, h2, h3, _⟩ := run_append_own (P := Tryz.prog) (w.alloc (.cells #[.int .u8 (c.toNat : Int)] 5)) base 47 ty 5 i0 _ 1 1 Tryz.underlying47 hi hz0 hz1 hz2 rfl (by decide) v l.length (Lx.bv l) ho2 ⟨w.heap.size, 0, none⟩ 1 1 (Lx.bv [c]) rfl (World.news_of_block (heap_alloc_new w _)) (Lx.bv_one _) (by unfold maxLen; omega) (by omega) (by simp; omega)
 refine ⟨v', w', hr, ?_, ⟨((Below.refl base w).alloc hbase _).grown h3 (by simp; omega) (Lx.own_ge ho2), ((Lib.OthersKept.refl _ _ _).alloc _).grown h3 (Lib.ownsRow_kind ho2)⟩⟩
 show w'.ownsRow base 5 1 v' (l ++ [c]).length (Lx.bv (l ++ [c]))
 rw [Lx.bv_app, List.length_append]
 exact h2
theorem wpList_appC {w : World} {ops : Array Oper} {rest : List Oper} {o : Oper} {a : Act} {Q : Exit → Act → World → Prop} (hgd : o.guard = none) (s x : Operand)
 (ho : o.op = .call { callee := .builtin .append, args := #[s, x], argTypes := #[47, 47] })
 (base : Nat) (v : Value) (l : List UInt8) (c : UInt8) (hs : a.eval s = v) (hx : a.eval x = .slice (some ⟨w.heap.size, 0, none⟩) 1 1) (hown : Hid (BRow w base v l)) (h40 : l.length + 1 ≤ 1099511627776) (hbase : base ≤ w.heap.size)
 (h : ∀ v' w', Hid (BRow w' base v' (l ++ [c])) → Hid (Kp base w w') → wpList Tryz.prog ops Q rest (a.put o.dst v') w') : wpList Tryz.prog ops Q (o :: rest) a (w.alloc (.cells #[.int .u8 (c.toNat : Int)] 5)) := by
 obtain ⟨v', w', hr, h2, h3⟩ := run_appC o.type hown.out c h40 hbase
 refine wpList_plain hgd fun K hK => ?_
 unfold Oper.wp execOp
 simp only [ho, resolve, invoke, builtin, Sem.run_bind, Sem.run_pure, Result.andThen_ok, List.map_toArray, List.map_cons, List.map_nil, hs, hx, hr]
 exact hK _ _ (h v' w' h2 h3)
theorem step_appC {w : World} {ops : Array Oper} {o : Oper} {a : Act} {K : Act → World → Prop} {Q : Exit → Act → World → Prop} {E : Prop} (hgd : o.guard = none) (s x : Operand)
 (ho : o.op = .call { callee := .builtin .append, args := #[s, x], argTypes := #[47, 47] })
 (base : Nat) (v : Value) (l : List UInt8) (c : UInt8) (hs : a.eval s = v) (hx : a.eval x = .slice (some ⟨w.heap.size, 0, none⟩) 1 1) (hown : Hid (BRow w base v l)) (h40 : l.length + 1 ≤ 1099511627776) (hbase : base ≤ w.heap.size)
 (h : ∀ v' w', Hid (BRow w' base v' (l ++ [c])) → Hid (Kp base w w') → K (a.put o.dst v') w') : if Region.wanted o (yielded ops a.tmps) = true then Oper.wp Tryz.prog o a (w.alloc (.cells #[.int .u8 (c.toNat : Int)] 5)) K Q else E := by
 have hw : Region.wanted o (yielded ops a.tmps) = true := by simp [Region.wanted, hgd]
 rw [if_pos hw]
 obtain ⟨v', w', hr, h2, h3⟩ := run_appC o.type hown.out c h40 hbase
 unfold Oper.wp execOp
 simp only [ho, resolve, invoke, builtin, Sem.run_bind, Sem.run_pure, Result.andThen_ok, List.map_toArray, List.map_cons, List.map_nil, hs, hx, hr]
 exact h v' w' h2 h3
theorem BRow.conv {w : World} {base : Nat} {v : Value} {l : List UInt8} (h : BRow w base v l) : (convert 47 9 v).run Tryz.prog w = .ok (.string ⟨l.toArray⟩) w := Lx.conv_own h
theorem BRow.stays {w w' : World} {base : Nat} {v : Value} {l : List UInt8} (h : BRow w base v l) (hb : Below w.heap.size w w') : BRow w' base v l :=
 h.kept ⟨hb.os, hb.tape, hb.output, hb.size, fun k hk _ => hb.block k hk⟩ (row := none) (by cases hv : v.ownBlock with | none => exact Or.inl rfl | some k => exact Or.inr (by simp))
def orS (t : List UInt8) : List UInt8 := if t = [] then [45] else t
def aw (t : List UInt8) : List UInt8 := 32 :: orS t
theorem aw_len (t : List UInt8) : (aw t).length ≤ t.length + 2 := by
 unfold aw orS
 split <;> simp
theorem ba_nil {t : ByteArray} (h : t.data.toList = []) : t = ⟨#[]⟩ := ByteArray.ext (Array.ext' h)
theorem appendWord_any (B : Nat) (v : Value) (l : List UInt8) (t : ByteArray) (w : World) (ho : BRow w B v l) (hl : l.length + t.size + 2 ≤ 1099511627776) (hB : B ≤ w.heap.size) :
 Calls Tryz.prog 31 #[v, .string t] w fun e w' => ∃ v', e = .returned v' ∧ Hid (BRow w' B v' (l ++ aw t.data.toList)) ∧ Hid (Kp B w w') := by
 have HO : Hid (BRow w B v l) := ho
 clear ho
 by_cases h : t.data.toList = []
 ·obtain rfl := ba_nil h
  have e : aw (⟨#[]⟩ : ByteArray).data.toList = [32, 45] := rfl
  rw [e]
  clear h e
  go_enter Tryz.func31, Tryz.ntmps31
  go_wp2_with (first
   | (at_builtin; refine wpList_appC (by rfl) _ _ (by rfl) B v l 32 (by rfl) (by rfl) HO (by omega) hB ?_; intro v1 w1 ho1 hb1)
   | (at_builtin; refine wpList_appS (by rfl) _ _ (by rfl) B v1 (l ++ [32]) ⟨#[45]⟩ (by rfl) (by rfl) ho1 (by rw [List.length_append]; show l.length + 1 + 1 ≤ _; omega) (Nat.le_trans hB hb1.out.size) ?_; intro v2 w2 ho2 hb2)
   | go_in)
  go_ret
  refine ⟨v2, rfl, ?_, hb1.out.trans hb2.out⟩
  have := ho2.out
  rw [List.append_assoc] at this
  exact this
 ·have e : aw t.data.toList = 32 :: t.data.toList := by unfold aw orS; rw [if_neg h]
  rw [e]
  have hne : (t.toList == []) = false := by rw [toL, beq_eq_false_iff_ne]; exact h
  clear h e
  go_enter Tryz.func31, Tryz.ntmps31
  go_wp2_with (first
   | (at_builtin; refine wpList_appC (by rfl) _ _ (by rfl) B v l 32 (by rfl) (by rfl) HO (by omega) hB ?_; intro v1 w1 ho1 hb1)
   | (at_builtin; refine wpList_appS (by rfl) _ _ (by rfl) B v1 (l ++ [32]) t (by rfl) (by rfl) ho1 (by rw [List.length_append]; show l.length + 1 + t.size ≤ _; omega) (Nat.le_trans hB hb1.out.size) ?_; intro v2 w2 ho2 hb2)
   | go_in)
  go_ret
  refine ⟨v2, rfl, ?_, hb1.out.trans hb2.out⟩
  have := ho2.out
  rw [List.append_assoc] at this
  exact this
end Go.Proofs.YtekgnogjfggnmaaGreatDoor
