import Derived.Deep.RegionLaw
import Derived.Test.YtichbejmelkjeaaDoorcBy
namespace Go.Proofs.YtichbejmelkjeaaDoor
open Go.RowKit

theorem wpList_appT {w : World} {ops : Array Oper} {rest : List Oper} {o : Oper} {a : Act} {Q : Exit → Act → World → Prop} (hgd : o.guard = none) (s x : Operand)
    (ho : o.op = .call { callee := .builtin .append, args := #[s, x], argTypes := #[50, 50] })
    (B : Nat) (v : Value) (l : List UInt8) (hs : a.eval s = v) (hown : TxB w B v l) (H m c : Nat) (news : List UInt8) (hx : a.eval x = .slice (some ⟨H, 0, none⟩) m c) (hm : news.length = m)
    (hnews : ∀ j u, (Lx.bv news)[j]? = some u → w.cell? ((⟨H, 0, none⟩ : Addr).add j) = some u) (h40 : l.length + m ≤ 1000000000) (hbase : B ≤ w.heap.size)
    (h : ∀ v' w', TxB w' B v' (l ++ news) → Below B w w' → wpList Tryd.prog ops Q rest (a.put o.dst v') w') : wpList Tryd.prog ops Q (o :: rest) a w := by
  obtain ⟨v', w', hr, h2, h3⟩ := run_appT (w := w) o.type B v l hown H m c news hm hnews h40 hbase
  refine wpList_plain hgd fun K hK => ?_
  unfold Oper.wp execOp
  simp only [ho, resolve, invoke, builtin, Sem.run_bind, Sem.run_pure, Result.andThen_ok, List.map_toArray, List.map_cons, List.map_nil, hs, hx, hr]
  exact hK _ _ (h v' w' h2 h3)
theorem wpList_appS {w : World} {ops : Array Oper} {rest : List Oper} {o : Oper} {a : Act} {Q : Exit → Act → World → Prop} (hgd : o.guard = none) (s x : Operand)
    (ho : o.op = .call { callee := .builtin .append, args := #[s, x], argTypes := #[50, 9] })
    (B : Nat) (v : Value) (l : List UInt8) (hs : a.eval s = v) (hown : TxB w B v l) (y : ByteArray) (hx : a.eval x = .string y) (h40 : l.length + y.size ≤ 1000000000) (hbase : B ≤ w.heap.size)
    (h : ∀ v' w', TxB w' B v' (l ++ y.data.toList) → Below B w w' → wpList Tryd.prog ops Q rest (a.put o.dst v') w') : wpList Tryd.prog ops Q (o :: rest) a w := by
  obtain ⟨v', w', hr, h2, h3⟩ := run_appS (w := w) o.type B v l hown y h40 hbase
  refine wpList_plain hgd fun K hK => ?_
  unfold Oper.wp execOp
  simp only [ho, resolve, invoke, builtin, Sem.run_bind, Sem.run_pure, Result.andThen_ok, List.map_toArray, List.map_cons, List.map_nil, hs, hx, hr]
  exact hK _ _ (h v' w' h2 h3)
theorem step_appT {w : World} {ops : Array Oper} {o : Oper} {a : Act} {K : Act → World → Prop} {Q : Exit → Act → World → Prop} {E : Prop} (hgd : o.guard = none) (s x : Operand)
    (ho : o.op = .call { callee := .builtin .append, args := #[s, x], argTypes := #[50, 50] })
    (B : Nat) (v : Value) (l : List UInt8) (hs : a.eval s = v) (hown : TxB w B v l) (H m c : Nat) (news : List UInt8) (hx : a.eval x = .slice (some ⟨H, 0, none⟩) m c) (hm : news.length = m)
    (hnews : ∀ j u, (Lx.bv news)[j]? = some u → w.cell? ((⟨H, 0, none⟩ : Addr).add j) = some u) (h40 : l.length + m ≤ 1000000000) (hbase : B ≤ w.heap.size)
    (h : ∀ v' w', TxB w' B v' (l ++ news) → Below B w w' → K (a.put o.dst v') w') : if Region.wanted o (yielded ops a.tmps) = true then Oper.wp Tryd.prog o a w K Q else E := by
  have hw : Region.wanted o (yielded ops a.tmps) = true := by simp [Region.wanted, hgd]
  rw [if_pos hw]
  obtain ⟨v', w', hr, h2, h3⟩ := run_appT (w := w) o.type B v l hown H m c news hm hnews h40 hbase
  unfold Oper.wp execOp
  simp only [ho, resolve, invoke, builtin, Sem.run_bind, Sem.run_pure, Result.andThen_ok, List.map_toArray, List.map_cons, List.map_nil, hs, hx, hr]
  exact h v' w' h2 h3

def sh (c : UInt8) : List UInt8 := if c = 10 then [92, 110] else if c = 92 then [92, 92] else if 32 ≤ c.toNat ∧ c.toNat ≤ 126 then [c] else [92, 120, Lx.hx (c.toNat / 16), Lx.hx (c.toNat % 16)]
theorem sh_len (c : UInt8) : (sh c).length ≤ 4 := by
  unfold sh
  split
  · simp
  · split
    · simp
    · split <;> simp
theorem bits_and15_all : ∀ n : Fin 256, bits BinOp.and IntKind.u8 ((n.val : Nat) : Int) 15 = ((n.val : Nat) : Int) % 16 := by decide +kernel
theorem bits_and15 (c : UInt8) : bits BinOp.and IntKind.u8 (c.toNat : Int) 15 = (c.toNat : Int) % 16 := bits_and15_all ⟨c.toNat, UInt8.toNat_lt c⟩
theorem hx_get (k : Nat) (h : k < ByteArray.size ⟨#[48, 49, 50, 51, 52, 53, 54, 55, 56, 57, 97, 98, 99, 100, 101, 102]⟩) : (⟨#[48, 49, 50, 51, 52, 53, 54, 55, 56, 57, 97, 98, 99, 100, 101, 102]⟩ : ByteArray)[k]'h = Lx.hx k := by
  have hk : k < 16 := h
  have h : k = 0 ∨ k = 1 ∨ k = 2 ∨ k = 3 ∨ k = 4 ∨ k = 5 ∨ k = 6 ∨ k = 7 ∨ k = 8 ∨ k = 9 ∨ k = 10 ∨ k = 11 ∨ k = 12 ∨ k = 13 ∨ k = 14 ∨ k = 15 := by omega
  rcases h with rfl | rfl | rfl | rfl | rfl | rfl | rfl | rfl | rfl | rfl | rfl | rfl | rfl | rfl | rfl | rfl
  all_goals rfl
theorem hx_get_quo (c : UInt8) (h : ((c.toNat : Int) / 16).toNat < ByteArray.size ⟨#[48, 49, 50, 51, 52, 53, 54, 55, 56, 57, 97, 98, 99, 100, 101, 102]⟩) : (⟨#[48, 49, 50, 51, 52, 53, 54, 55, 56, 57, 97, 98, 99, 100, 101, 102]⟩ : ByteArray)[((c.toNat : Int) / 16).toNat]'h = Lx.hx (c.toNat / 16) := by
  rw [hx_get]
  congr 1
theorem hx_get_rem (c : UInt8) (h : ((c.toNat : Int) % 16).toNat < ByteArray.size ⟨#[48, 49, 50, 51, 52, 53, 54, 55, 56, 57, 97, 98, 99, 100, 101, 102]⟩) : (⟨#[48, 49, 50, 51, 52, 53, 54, 55, 56, 57, 97, 98, 99, 100, 101, 102]⟩ : ByteArray)[((c.toNat : Int) % 16).toNat]'h = Lx.hx (c.toNat % 16) := by
  rw [hx_get]
  congr 1

set_option maxRecDepth 100000 in
set_option maxHeartbeats 1000000 in
theorem shown_any (c : UInt8) (B : Nat) (v : Value) (l : List UInt8) (w : World) (hown : TxB w B v l) (h40 : l.length + 4 ≤ 1000000000) (hbase : B ≤ w.heap.size) :
    Calls Tryd.prog 12 #[v, .int .u8 (c.toNat : Int)] w fun e w' => ∃ v', e = .returned v' ∧ TxB w' B v' (l ++ sh c) ∧ Below B w w' := by
  have hc := UInt8.toNat_lt c
  have HO : Hid (TxB w B v l) := hown
  clear hown
  by_cases h1 : c = 10
  · subst h1
    have e : sh 10 = [92, 110] := rfl
    rw [e]
    clear e
    go_enter Tryd.func12, Tryd.ntmps12
    go_wp2_with (first
      | (at_builtin; refine wpList_appT (by rfl) _ _ (by rfl) B v l (by rfl) (HO.out.alloc _) w.heap.size 2 2 [92, 110] (by rfl) (by rfl) (World.news_of_block (heap_alloc_new w _)) (by omega) (by simp; omega) ?_; intro v' w' ho hb)
      | go_in)
    go_ret
    exact ⟨_, rfl, ho, Lx.Below.after_alloc hb hbase⟩
  have b1 : ((c.toNat : Int) == 10) = false := by
    rw [beq_eq_false_iff_ne]
    intro e
    exact h1 (UInt8.toNat_inj.1 (by show c.toNat = 10; omega))
  by_cases h2 : c = 92
  · have e : sh c = [92, 92] := by unfold sh; rw [if_neg h1, if_pos h2]
    rw [e]
    clear e b1
    subst h2
    clear h1
    go_enter Tryd.func12, Tryd.ntmps12
    go_wp2_with (first
      | (at_builtin; refine wpList_appT (by rfl) _ _ (by rfl) B v l (by rfl) (HO.out.alloc _) w.heap.size 2 2 [92, 92] (by rfl) (by rfl) (World.news_of_block (heap_alloc_new w _)) (by omega) (by simp; omega) ?_; intro v' w' ho hb)
      | go_in)
    go_ret
    exact ⟨_, rfl, ho, Lx.Below.after_alloc hb hbase⟩
  have b3 : ((c.toNat : Int) == 92) = false := by
    rw [beq_eq_false_iff_ne]
    intro e
    exact h2 (UInt8.toNat_inj.1 (by show c.toNat = 92; omega))
  by_cases h3 : 32 ≤ c.toNat ∧ c.toNat ≤ 126
  · have e : sh c = [c] := by unfold sh; rw [if_neg h1, if_neg h2, if_pos h3]
    rw [e]
    have g1 : (32 : Int) ≤ (c.toNat : Int) := by omega
    have g2 : (c.toNat : Int) ≤ 126 := by omega
    clear e h1 h2 h3
    go_enter Tryd.func12, Tryd.ntmps12
    go_wp2_with (first
      | (at_builtin; refine wpList_appT (by rfl) _ _ (by rfl) B v l (by rfl) (HO.out.alloc _) w.heap.size 1 1 [c] (by rfl) (by rfl) (World.news_of_block (heap_alloc_new w _)) (by omega) (by simp; omega) ?_; intro v' w' ho hb)
      | go_in)
    go_ret
    exact ⟨_, rfl, ho, Lx.Below.after_alloc hb hbase⟩
  · have e : sh c = [92, 120, Lx.hx (c.toNat / 16), Lx.hx (c.toNat % 16)] := by unfold sh; rw [if_neg h1, if_neg h2, if_neg h3]
    rw [e]
    have hq0 : (0 : Int) ≤ (c.toNat : Int) / 16 := by omega
    have hq1 : (c.toNat : Int) / 16 < 16 := by omega
    have hm0 : (0 : Int) ≤ (c.toNat : Int) % 16 := by omega
    have hm1 : (c.toNat : Int) % 16 < 16 := by omega
    have hand := bits_and15 c
    have ho2 : ¬ (32 : Int) ≤ (c.toNat : Int) ∨ ((32 : Int) ≤ (c.toNat : Int) ∧ ¬ (c.toNat : Int) ≤ 126) := by omega
    clear e h1 h2 h3
    rcases ho2 with g1 | ⟨g1, g2⟩
    all_goals
      go_enter Tryd.func12, Tryd.ntmps12
      go_wp2_with fail
      go_region_law ((refine step_appT (by rfl) _ _ (by rfl) B v l (by rfl) (HO.out.drew.alloc _) _ 4 4 [92, 120, _, _] (by rfl) (by rfl) (World.news_of_block (heap_alloc_new _ _)) (by omega) (by simp; omega) ?_; intro v' w' ho hb))
      all_goals rw [hx_get_quo c, hx_get_rem c] at ho
      all_goals go_wp2
      all_goals go_ret
      all_goals exact ⟨_, rfl, ho, (((Below.refl B w).alloc hbase _).drew).trans hb⟩
end Go.Proofs.YtichbejmelkjeaaDoor
