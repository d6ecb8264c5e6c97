import Derived.Lib.ConvBytes
import Derived.WalkKit
import Derived.Deep.AppendLies
import Derived.Laws.MakeOwn
import Derived.OwnWalk
import Derived.Below
import Derived.Test.YtcjnejdemfemfaaGreatDoorProg
import Derived.Deep.RegionLaw
import Derived.ProofKit
import Derived.BigCall
import Derived.BigGuard
import Derived.Deep.Cut
import Derived.WalkMore
import Derived.Laws.IdiomStrings
import Derived.Lib.SmallJoins
namespace Go.Proofs.YtcjnejdemfemfaaGreatDoor.Lx
open Go.RowKit

/-- The digits of a byte's number. -/
def hexs : ByteArray := ⟨#[48, 49, 50, 51, 52, 53, 54, 55, 56, 57, 97, 98, 99, 100, 101, 102]⟩
def hx (n : Nat) : UInt8 := hexs.data.toList.getD n 0
/-- A byte's piece. -/
def pc (c : UInt8) : List UInt8 := if c = 10 then [92, 110] else if c = 34 ∨ c = 92 then [92, c] else if 32 ≤ c.toNat ∧ c.toNat ≤ 126 then [c] else [92, 120, hx (c.toNat / 16), hx (c.toNat % 16)]
def pcs (l : List UInt8) : List UInt8 := l.flatMap pc
def qt (l : List UInt8) : List UInt8 := 34 :: (pcs l ++ [34])
theorem pc_len (c : UInt8) : (pc c).length ≤ 4 := by unfold pc; split; · simp
                                                     split; · simp
                                                     split <;> simp
theorem pcs_len (l : List UInt8) : (pcs l).length ≤ 4 * l.length := by
  induction l with
  | nil => simp [pcs]
  | cons c l ih => have := pc_len c; unfold pcs at *; rw [List.flatMap_cons, List.length_append, List.length_cons]; omega
theorem pcs_step (l : List UInt8) (k : Nat) (h : k < l.length) : pcs (l.take (k + 1)) = pcs (l.take k) ++ pc (l[k]) := by
  unfold pcs
  rw [List.take_succ_eq_append_getElem h, List.flatMap_append]
  simp

def bv (l : List UInt8) : List Value := l.map fun c => Value.int .u8 (c.toNat : Int)
theorem bv_app (a b : List UInt8) : bv (a ++ b) = bv a ++ bv b := List.map_append
theorem bv_len (a : List UInt8) : (bv a).length = a.length := List.length_map ..
def hv (a : UInt8) : Nat := hexs.data.toList.findIdx (fun c => c == a)
theorem hv_all : ∀ n : Fin 16, hv (hx n.val) = n.val ∧ 32 ≤ (hx n.val).toNat ∧ (hx n.val).toNat ≤ 126 := by decide +kernel
/-- The byte of a piece. -/
def unp : List UInt8 → UInt8
  | [] => 0
  | c :: r => if c ≠ 92 then c else match r with
    | [] => 0
    | d :: r => if d = 110 then 10 else if d = 34 ∨ d = 92 then d else match r with
      | a :: b :: _ => UInt8.ofNat (16 * hv a + hv b)
      | _ => 0
theorem unp_pc (c : UInt8) (rest : List UInt8) : unp (pc c ++ rest) = c := by
  have hc := UInt8.toNat_lt c
  unfold pc
  by_cases h1 : c = 10
  · rw [if_pos h1]; subst h1; simp [unp]
  · rw [if_neg h1]
    by_cases h2 : c = 34 ∨ c = 92
    · rw [if_pos h2]
      have h3 : c ≠ 110 := by rcases h2 with rfl | rfl <;> decide
      simp only [List.cons_append, List.nil_append, unp]
      rw [if_neg (by simp), if_neg h3, if_pos h2]
    · rw [if_neg h2]
      by_cases h3 : 32 ≤ c.toNat ∧ c.toNat ≤ 126
      · rw [if_pos h3]
        simp only [List.cons_append, List.nil_append, unp]
        rw [if_pos (fun e => h2 (Or.inr e))]
      · rw [if_neg h3]
        simp only [List.cons_append, List.nil_append, unp]
        rw [if_neg (by simp), if_neg (by decide), if_neg (by decide)]
        have g1 := (hv_all ⟨c.toNat / 16, by omega⟩).1
        have g2 := (hv_all ⟨c.toNat % 16, by omega⟩).1
        simp only at g1 g2
        rw [g1, g2]
        apply UInt8.toNat_inj.1
        rw [UInt8.toNat_ofNat_of_lt' (by show _ < 256; omega)]
        omega
theorem pc_head (c : UInt8) : ∃ d r, pc c = d :: r ∧ d ≠ 34 := by
  unfold pc
  by_cases h1 : c = 10
  · rw [if_pos h1]; exact ⟨_, _, rfl, by decide⟩
  · rw [if_neg h1]
    by_cases h2 : c = 34 ∨ c = 92
    · rw [if_pos h2]; exact ⟨_, _, rfl, by decide⟩
    · rw [if_neg h2]
      by_cases h3 : 32 ≤ c.toNat ∧ c.toNat ≤ 126
      · rw [if_pos h3]; exact ⟨_, _, rfl, fun e => h2 (Or.inl e)⟩
      · rw [if_neg h3]; exact ⟨_, _, rfl, by decide⟩
theorem pc_bytes (c : UInt8) : ∀ d ∈ pc c, 32 ≤ d.toNat ∧ d.toNat ≤ 126 := by
  have hc := UInt8.toNat_lt c
  unfold pc
  by_cases h1 : c = 10
  · rw [if_pos h1]; decide
  · rw [if_neg h1]
    by_cases h2 : c = 34 ∨ c = 92
    · rw [if_pos h2]; rcases h2 with rfl | rfl <;> decide
    · rw [if_neg h2]
      by_cases h3 : 32 ≤ c.toNat ∧ c.toNat ≤ 126
      · rw [if_pos h3]; intro d hd; rw [List.mem_singleton.1 hd]; exact h3
      · rw [if_neg h3]
        intro d hd
        simp only [List.mem_cons, List.not_mem_nil, or_false] at hd
        rcases hd with rfl | rfl | rfl | rfl
        · decide
        · decide
        · exact (hv_all ⟨c.toNat / 16, by omega⟩).2
        · exact (hv_all ⟨c.toNat % 16, by omega⟩).2
theorem pcs_cons (c : UInt8) (l : List UInt8) : pcs (c :: l) = pc c ++ pcs l := List.flatMap_cons
theorem qt_bytes (l : List UInt8) : ∀ d ∈ qt l, 32 ≤ d.toNat ∧ d.toNat ≤ 126 := by
  intro d hd
  unfold qt at hd
  rcases List.mem_cons.1 hd with rfl | hd
  · decide
  · rcases List.mem_append.1 hd with hd | hd
    · unfold pcs at hd
      obtain ⟨c, _, hc⟩ := List.mem_flatMap.1 hd
      exact pc_bytes c d hc
    · rw [List.mem_singleton.1 hd]; decide
theorem pcs_inj : ∀ (a b : List UInt8), pcs a ++ [34] = pcs b ++ [34] → a = b
  | [], [], _ => rfl
  | [], d :: b, h => by
    obtain ⟨x, r, e, hx⟩ := pc_head d
    rw [pcs_cons, e] at h
    simp [pcs] at h
  | c :: a, [], h => by
    obtain ⟨x, r, e, hx⟩ := pc_head c
    rw [pcs_cons, e] at h
    simp [pcs] at h
  | c :: a, d :: b, h => by
    rw [pcs_cons, pcs_cons, List.append_assoc, List.append_assoc] at h
    have h1 := unp_pc c (pcs a ++ [34])
    rw [h, unp_pc d] at h1
    subst h1
    rw [pcs_inj a b (List.append_cancel_left h)]
theorem qt_inj (a b : List UInt8) (h : qt a = qt b) : a = b := by
  unfold qt at h
  rw [List.cons.injEq] at h
  exact pcs_inj a b h.2
end Go.Proofs.YtcjnejdemfemfaaGreatDoor.Lx
namespace Go.Proofs.YtcjnejdemfemfaaGreatDoor.Lx
open Go.RowKit

theorem info5 : (Tryz.prog.info? 5).map (fun i => (i.zero, i.size, i.bytes)) = some (some (.int .u8 0), 1, 1) := by kernel_rfl

theorem own_ge {w : World} {base : Nat} {e : TypeId} {size : Nat} {v : Value} {n : Nat} {xs : List Value} (h : w.ownsRow base e size v n xs) : ∀ k, v.ownBlock = some k → base ≤ k := by
  intro k hk
  rcases h.2 with ⟨rfl, _⟩ | ⟨g, cap, cur, rfl, hb, _⟩
  · cases hk
  · simp only [Value.ownBlock, Option.some.injEq] at hk; omega

theorem bv_one (l : List UInt8) : ∀ u ∈ bv l, u.oneCell' = true := by
  intro u hu
  obtain ⟨c, _, rfl⟩ := List.mem_map.1 hu
  rfl

/-- Bytes that lie in a block of their own are appended to a row of the call's own. -/
theorem run_appB {w : World} (ty : TypeId) (base : Nat) (v : Value) (n : Nat) (l : List UInt8) (hown : w.ownsRow base 5 1 v n (bv l)) (H m c : Nat) (news : List UInt8) (hm : news.length = m)
    (hnews : ∀ j u, (bv news)[j]? = some u → w.cell? ((⟨H, 0, none⟩ : Addr).add j) = some u) (h40 : n + m ≤ 1099511627776) (hbase : base ≤ w.heap.size) :
    ∃ v' w', (Builtin.append_ #[66, 66] ty #[v, .slice (some ⟨H, 0, none⟩) m c]).run Tryz.prog w = .ok v' w' ∧ w'.ownsRow base 5 1 v' (n + m) (bv (l ++ news)) ∧ Below base w w' := by
  obtain ⟨i0, hi, hz0, hz1, hz2⟩ := info_parts info5
  obtain ⟨v', w', hr, h2, h3, _⟩ := run_append_own (P := Tryz.prog) w base 66 ty 5 i0 _ 1 1 Tryz.underlying66 hi hz0 hz1 hz2 rfl (by decide) v n (bv l) hown ⟨H, 0, none⟩ m c (bv news) (by rw [bv_len, hm]; omega) hnews (bv_one _) (by unfold maxLen; omega) (by omega) hbase
  refine ⟨v', w', hr, by rw [bv_app]; exact h2, (Below.refl base w).grown h3 hbase (own_ge hown)⟩

theorem wpList_appB {w : World} {ops : Array Oper} {rest : List Oper} {o : Oper} {a : Act} {Q : Exit → Act → World → Prop} (hgd : o.guard = none) (s x : Operand)
    (ho : o.op = .call { callee := .builtin .append, args := #[s, x], argTypes := #[66, 66] })
    (base : Nat) (v : Value) (n : Nat) (l : List UInt8) (hs : a.eval s = v) (hown : w.ownsRow base 5 1 v n (bv l)) (H m c : Nat) (news : List UInt8) (hx : a.eval x = .slice (some ⟨H, 0, none⟩) m c) (hm : news.length = m)
    (hnews : ∀ j u, (bv news)[j]? = some u → w.cell? ((⟨H, 0, none⟩ : Addr).add j) = some u) (h40 : n + m ≤ 1099511627776) (hbase : base ≤ w.heap.size)
    (h : ∀ v' w', w'.ownsRow base 5 1 v' (n + m) (bv (l ++ news)) → Below base w w' → wpList Tryz.prog ops Q rest (a.put o.dst v') w') : wpList Tryz.prog ops Q (o :: rest) a w := by
  obtain ⟨v', w', hr, h2, h3⟩ := run_appB (w := w) o.type base v n l hown H m c news hm hnews h40 hbase
  refine wpList_plain hgd fun K hK => ?_
  unfold Oper.wp execOp
  simp only [ho, resolve, invoke, builtin, Sem.run_bind, Sem.run_pure, Result.andThen_ok, List.map_toArray, List.map_cons, List.map_nil, hs, hx, hr]
  exact hK _ _ (h v' w' h2 h3)

theorem step_appB {w : World} {ops : Array Oper} {o : Oper} {a : Act} {K : Act → World → Prop} {Q : Exit → Act → World → Prop} {E : Prop} (hgd : o.guard = none) (s x : Operand)
    (ho : o.op = .call { callee := .builtin .append, args := #[s, x], argTypes := #[66, 66] })
    (base : Nat) (v : Value) (n : Nat) (l : List UInt8) (hs : a.eval s = v) (hown : w.ownsRow base 5 1 v n (bv l)) (H m c : Nat) (news : List UInt8) (hx : a.eval x = .slice (some ⟨H, 0, none⟩) m c) (hm : news.length = m)
    (hnews : ∀ j u, (bv news)[j]? = some u → w.cell? ((⟨H, 0, none⟩ : Addr).add j) = some u) (h40 : n + m ≤ 1099511627776) (hbase : base ≤ w.heap.size)
    (h : ∀ v' w', w'.ownsRow base 5 1 v' (n + m) (bv (l ++ news)) → Below base w w' → K (a.put o.dst v') w') : if Region.wanted o (yielded ops a.tmps) = true then Oper.wp Tryz.prog o a w K Q else E := by
  have hw : Region.wanted o (yielded ops a.tmps) = true := by simp [Region.wanted, hgd]
  rw [if_pos hw]
  obtain ⟨v', w', hr, h2, h3⟩ := run_appB (w := w) o.type base v n l hown H m c news hm hnews h40 hbase
  unfold Oper.wp execOp
  simp only [ho, resolve, invoke, builtin, Sem.run_bind, Sem.run_pure, Result.andThen_ok, List.map_toArray, List.map_cons, List.map_nil, hs, hx, hr]
  exact h v' w' h2 h3

theorem Below.after_alloc {base : Nat} {w w' : World} {o : Obj} (h : Below base (w.alloc o) w') (hb : base ≤ w.heap.size) : Below base w w' := ((Below.refl base w).alloc hb o).trans h
end Go.Proofs.YtcjnejdemfemfaaGreatDoor.Lx
namespace Go.Proofs.YtcjnejdemfemfaaGreatDoor.Lx
open Go.RowKit

set_option maxRecDepth 100000 in
theorem hx_run (k : Nat) (hk : k < 16) : ∀ w : World, (Instr.index 9 (.string ⟨#[48, 49, 50, 51, 52, 53, 54, 55, 56, 57, 97, 98, 99, 100, 101, 102]⟩) (.int .u8 (k : Int))).run Tryz.prog w = .ok (.int .u8 ((hx k).toNat : Int)) w := by
  have h : k = 0 ∨ k = 1 ∨ k = 2 ∨ k = 3 ∨ k = 4 ∨ k = 5 ∨ k = 6 ∨ k = 7 ∨ k = 8 ∨ k = 9 ∨ k = 10 ∨ k = 11 ∨ k = 12 ∨ k = 13 ∨ k = 14 ∨ k = 15 := by omega
  rcases h with rfl | rfl | rfl | rfl | rfl | rfl | rfl | rfl | rfl | rfl | rfl | rfl | rfl | rfl | rfl | rfl
  all_goals exact fun w => by kernel_rfl
theorem hx_quo (c : UInt8) : ∀ w : World, (Instr.index 9 (.string ⟨#[48, 49, 50, 51, 52, 53, 54, 55, 56, 57, 97, 98, 99, 100, 101, 102]⟩) (.int .u8 ((c.toNat : Int) / 16))).run Tryz.prog w = .ok (.int .u8 ((hx (c.toNat / 16)).toNat : Int)) w := by
  have hc := UInt8.toNat_lt c
  have h := hx_run (c.toNat / 16) (by omega)
  rwa [show ((c.toNat / 16 : Nat) : Int) = (c.toNat : Int) / 16 from by omega] at h
theorem hx_rem (c : UInt8) : ∀ w : World, (Instr.index 9 (.string ⟨#[48, 49, 50, 51, 52, 53, 54, 55, 56, 57, 97, 98, 99, 100, 101, 102]⟩) (.int .u8 ((c.toNat : Int) % 16))).run Tryz.prog w = .ok (.int .u8 ((hx (c.toNat % 16)).toNat : Int)) w := by
  have h := hx_run (c.toNat % 16) (by omega)
  rwa [show ((c.toNat % 16 : Nat) : Int) = (c.toNat : Int) % 16 from by omega] at h
theorem bits_and15_all : ∀ n : Fin 256, bits BinOp.and IntKind.u8 ((n.val : Nat) : Int) 15 = ((n.val : Nat) : Int) % 16 := by decide +kernel
theorem bits_and15 (c : UInt8) : bits BinOp.and IntKind.u8 (c.toNat : Int) 15 = (c.toNat : Int) % 16 := bits_and15_all ⟨c.toNat, UInt8.toNat_lt c⟩
theorem hx_get (k : Nat) (h : k < ByteArray.size ⟨#[48, 49, 50, 51, 52, 53, 54, 55, 56, 57, 97, 98, 99, 100, 101, 102]⟩) : (⟨#[48, 49, 50, 51, 52, 53, 54, 55, 56, 57, 97, 98, 99, 100, 101, 102]⟩ : ByteArray)[k]'h = hx k := by
  have hk : k < 16 := h
  have h : k = 0 ∨ k = 1 ∨ k = 2 ∨ k = 3 ∨ k = 4 ∨ k = 5 ∨ k = 6 ∨ k = 7 ∨ k = 8 ∨ k = 9 ∨ k = 10 ∨ k = 11 ∨ k = 12 ∨ k = 13 ∨ k = 14 ∨ k = 15 := by omega
  rcases h with rfl | rfl | rfl | rfl | rfl | rfl | rfl | rfl | rfl | rfl | rfl | rfl | rfl | rfl | rfl | rfl
  all_goals rfl
theorem hx_get_quo (c : UInt8) (h : ((c.toNat : Int) / 16).toNat < ByteArray.size ⟨#[48, 49, 50, 51, 52, 53, 54, 55, 56, 57, 97, 98, 99, 100, 101, 102]⟩) : (⟨#[48, 49, 50, 51, 52, 53, 54, 55, 56, 57, 97, 98, 99, 100, 101, 102]⟩ : ByteArray)[((c.toNat : Int) / 16).toNat]'h = hx (c.toNat / 16) := by
  rw [hx_get]
  congr 1
theorem hx_get_rem (c : UInt8) (h : ((c.toNat : Int) % 16).toNat < ByteArray.size ⟨#[48, 49, 50, 51, 52, 53, 54, 55, 56, 57, 97, 98, 99, 100, 101, 102]⟩) : (⟨#[48, 49, 50, 51, 52, 53, 54, 55, 56, 57, 97, 98, 99, 100, 101, 102]⟩ : ByteArray)[((c.toNat : Int) % 16).toNat]'h = hx (c.toNat % 16) := by
  rw [hx_get]
  congr 1
theorem own_drew {w : World} {base : Nat} {e : TypeId} {size : Nat} {v : Value} {n : Nat} {xs : List Value} (h : w.ownsRow base e size v n xs) : w.drew.ownsRow base e size v n xs := h

end Go.Proofs.YtcjnejdemfemfaaGreatDoor.Lx
namespace Go.Proofs.YtcjnejdemfemfaaGreatDoor.Lx
open Go.RowKit

theorem conv_own {w : World} {base : Nat} {v : Value} {n : Nat} {l : List UInt8} (h : w.ownsRow base 5 1 v n (bv l)) : (convert 66 9 v).run Tryz.prog w = .ok (.string ⟨l.toArray⟩) w := by
  have hn : n = l.length := by have := h.1; rw [bv_len] at this; omega
  rcases h.2 with ⟨rfl, h0⟩ | ⟨g, cap, cur, rfl, hb, hg, hnc, hcm, hcs, htake⟩
  · have hl : l = [] := List.eq_nil_of_length_eq_zero (by omega)
    subst hl
    exact run_convert_bytes_nil w 66 5 Tryz.underlying66 Tryz.underlying5 0 0 9 Tryz.underlying9
  · subst hn
    refine run_convert_bytes_back (P := Tryz.prog) w 66 9 5 ⟨g, 0, none⟩ cap l Tryz.underlying66 Tryz.underlying5 Tryz.underlying9 (fun j hj => ?_)
    exact h.cells (g := g) rfl j _ (by unfold bv; rw [List.getElem?_map, List.getElem?_eq_getElem hj]; rfl)

theorem build1 (c : UInt8) (w : World) : ∃ w0, w0 = w.alloc (.cells #[.int .u8 (c.toNat : Int)] 5) ∧ w0.ownsRow w.heap.size 5 1 (.slice (some ⟨w.heap.size, 0, none⟩) 1 1) 1 (bv [c]) ∧ Below w.heap.size w w0 := by
  refine ⟨_, rfl, ⟨rfl, Or.inr ⟨w.heap.size, 1, _, rfl, Nat.le_refl _, heap_alloc_new w _, Nat.le_refl _, by unfold maxLen; omega, rfl, rfl⟩⟩, (Below.refl _ w).alloc (Nat.le_refl _) _⟩

end Go.Proofs.YtcjnejdemfemfaaGreatDoor.Lx

