import Derived.Deep.AppendSrc
import Derived.Lib.AppendStr
import Derived.Deep.RegionLaw
import Derived.Test.YtichbejmelkjeaaGreatDoorU11
import Derived.Test.YtichbejmelkjeaaGreatDoorU03
namespace Go.Proofs.YtichbejmelkjeaaGreatDoor
open Go.RowKit

/-! A text that grows: a row of bytes of one's own, or one that was made of a text (it has a mark behind its end). -/
def TxM (w : World) (B : Nat) (v : Value) (l : List UInt8) : Prop :=
  ∃ g cap cur fz, v = .slice (some ⟨g, 0, none⟩) l.length cap ∧ B ≤ g ∧ w.heap[g]? = some (.cells cur 5 fz) ∧ cur.size ≤ fz.1 ∧ l.length ≤ cap ∧ cap ≤ maxLen ∧ cur.size = cap ∧ cur.toList.take l.length = Lx.bv l
def TxB (w : World) (B : Nat) (v : Value) (l : List UInt8) : Prop := w.ownsRow B 5 1 v l.length (Lx.bv l) ∨ TxM w B v l
theorem TxB.next {w w' : World} {B : Nat} {v : Value} {l : List UInt8} (h : TxB w B v l) (k : Below w.heap.size w w') : TxB w' B v l := by
  rcases h with h | ⟨g, cap, cur, fz, rfl, h0, h1, h2⟩
  · exact .inl (own_next h k)
  · exact .inr ⟨g, cap, cur, fz, rfl, h0, (k.block g (Array.getElem?_eq_some_iff.1 h1).1).trans h1, h2⟩
theorem TxB.alloc {w : World} {B : Nat} {v : Value} {l : List UInt8} (h : TxB w B v l) (o : Obj) : TxB (w.alloc o) B v l := h.next ((Below.refl _ w).alloc (Nat.le_refl _) _)
theorem TxB.drew {w : World} {B : Nat} {v : Value} {l : List UInt8} (h : TxB w B v l) : TxB w.drew B v l := h.next (Below.refl _ w).drew
theorem txM_range {w : World} {g n : Nat} {cur : Array Value} {fz : Nat × Nat} {xs : List Value} (h1 : w.heap[g]? = some (.cells cur 5 fz)) (h6 : cur.toList.take n = xs) : w.rangeAt g 0 xs := fun j v hv => by
  rw [Nat.zero_add]
  simp only [World.cell?, h1]
  rw [← h6, List.getElem?_take] at hv
  split at hv
  · simpa using hv
  · cases hv
/-- Where it lies. -/
theorem TxB.slice {w : World} {B : Nat} {v : Value} {l : List UInt8} (h : TxB w B v l) : ∃ q cap, v = .slice q l.length cap ∧ l.length ≤ cap ∧ (0 < l.length → ∃ g, q = some ⟨g, 0, none⟩ ∧ w.rangeAt g 0 (Lx.bv l)) := by
  rcases h with h | ⟨g, cap, cur, fz, rfl, h0, h1, h2, h3, h4, h5, h6⟩
  · exact own_slice h
  · exact ⟨_, cap, rfl, h3, fun _ => ⟨g, rfl, txM_range h1 h6⟩⟩

theorem runM_src (w : World) (tx ty : TypeId) (B : Nat) (v : Value) (l : List UInt8) (hown : TxM w B v l) (hB : B ≤ w.heap.size) (x : Value) (m : Nat) (news : List UInt8) (hs : Src Tryz.prog 1 tx x m (Lx.bv news) w) (h40 : l.length + m ≤ 1000000000) :
    ∃ v' w', (Builtin.append_ #[62, tx] ty #[v, x]).run Tryz.prog w = .ok v' w' ∧ TxB w' B v' (l ++ news) ∧ Below B w w' := by
  obtain ⟨i, hi, hz0, hz1, hz2⟩ := info_parts Lx.info5
  obtain ⟨g, cap, cur, fz, rfl, h0, h1, h2, h3, h4, h5, h6⟩ := hown
  have hnl : (Lx.bv news).length = m := by have := hs.newsLen; omega
  have hnl2 : news.length = m := by rw [Lx.bv_len] at hnl; exact hnl
  have hll := Lx.bv_len l
  have hs' : Src Tryz.prog i.size tx x m (Lx.bv news) w := by rw [hz1]; exact hs
  by_cases hroom : l.length + m ≤ cap
  · have hth : ∀ j, j < (Lx.bv news).length → (w.cell? ⟨g, 0 + l.length * i.size + j, none⟩).isSome = true ∧ w.frozen? ⟨g, 0 + l.length * i.size + j, none⟩ = false := fun j hj => by
      rw [hz1]
      have hlt : 0 + l.length * 1 + j < cur.size := by omega
      refine ⟨?_, ?_⟩
      · simp only [World.cell?, h1]
        simp
        omega
      · have : ¬ (fz.1 ≤ l.length + j) := by omega
        simp only [World.frozen?, h1]
        simp [this]
    have hr := run_append_room_src (P := Tryz.prog) w 62 tx ty 5 i Tryz.underlying62 hi g 0 l.length cap x m (Lx.bv news) hs' hroom (fun j hj => (hth j hj).1) (fun j hj => (hth j hj).2)
    have hmid : w.there g (0 + l.length * i.size) (Lx.bv news).length := fun j hj => hth j hj
    rw [hz1, Nat.zero_add, Nat.mul_one] at hr hmid
    obtain ⟨c, q1, q2⟩ := sets_self g (Lx.bv news) l.length w cur h1
    have hlen : (l ++ news).length = l.length + m := by rw [List.length_append, hnl2]
    refine ⟨_, _, hr, .inr ⟨g, cap, c, fz, by rw [hlen], h0, q1, by omega, by rw [hlen]; exact hroom, h4, by omega, ?_⟩, below_sets (Below.refl _ w) h0 _ _⟩
    rw [Lx.bv_app, hlen]
    apply List.ext_getElem?
    intro j
    rw [List.getElem?_take]
    by_cases hj : j < l.length + m
    · rw [if_pos hj]
      have hcell : c.toList[j]? = (w.setCells g l.length (Lx.bv news)).cell? ⟨g, j, none⟩ := by
        simp only [World.cell?, q1]
        simp
      rw [hcell]
      by_cases hjn : j < l.length
      · rw [World.cell?_setCells_out _ _ _ _ _ (fun _ _ => by show j < l.length ∨ l.length + (Lx.bv news).length ≤ j; omega), List.getElem?_append_left (by omega)]
        have := txM_range h1 h6 j (Lx.bv l)[j] (List.getElem?_eq_getElem (by omega))
        rw [Nat.zero_add] at this
        rw [this, List.getElem?_eq_getElem (by omega)]
      · rw [List.getElem?_append_right (by omega), hll]
        have hjm : j - l.length < (Lx.bv news).length := by omega
        have := World.rangeAt_setCells_same w g l.length (Lx.bv news) hmid (j - l.length) (Lx.bv news)[j - l.length] (List.getElem?_eq_getElem hjm)
        rw [show l.length + (j - l.length) = j by omega] at this
        rw [this, List.getElem?_eq_getElem hjm]
    · rw [if_neg hj, List.getElem?_eq_none (by rw [List.length_append]; omega)]
  · have hold : (Builtin.firstCells i.size l.length (.slice (some ⟨g, 0, none⟩) l.length cap)).run Tryz.prog w.drew = .ok (Lx.bv l).toArray w.drew := run_firstCells_some (P := Tryz.prog) w.drew i.size l.length ⟨g, 0, none⟩ l.length cap (Lx.bv l) (by rw [hz1]; omega) (fun j u hu => by
      rw [Addr.add_mid]
      have := txM_range h1 h6 j u hu
      simpa using this)
    have hr := run_append_grow_src (P := Tryz.prog) w 62 tx ty 5 i _ Tryz.underlying62 hi hz0 (some ⟨g, 0, none⟩) l.length cap (Lx.bv l) hold x m (Lx.bv news) hs' (by omega) (by omega) (by rw [hz2]; exact growslice_fits (by omega) (Nat.le_trans (Nat.mul_le_mul h40 (Nat.le_refl 1)) (by decide)))
    have hge := grownCap_ge w (l.length + m) cap 5
    have hcm : grownCap w (l.length + m) cap 5 ≤ maxLen := grownCap_le_maxLen w (l.length + m) cap 5 (by unfold maxLen; omega)
    have hlen : (Lx.bv l ++ Lx.bv news).length = l.length + m := by rw [List.length_append]; omega
    have hlen2 : (l ++ news).length = l.length + m := by rw [List.length_append, hnl2]
    refine ⟨_, _, hr, .inl ?_, (Below.refl B w).drew.alloc hB _⟩
    rw [Lx.bv_app, hlen2]
    refine ⟨by rw [hlen]; omega, .inr ⟨w.heap.size, _, _, rfl, hB, heap_alloc_new w.drew _, hge, hcm, ?_, ?_⟩⟩
    · simp only [Array.size_append, List.size_toArray, size_zeroCells, hlen]
      have : (Value.int IntKind.u8 0).cells.size = 1 := rfl
      rw [this]
      omega
    · simp only [Array.toList_append]
      rw [show (l.length + m) * 1 = (Lx.bv l ++ Lx.bv news).length by omega]
      exact List.take_left
/-- Bytes that lie in a block are appended. -/
theorem run_appT {w : World} (ty : TypeId) (B : Nat) (v : Value) (l : List UInt8) (h : TxB w B v l) (H m c : Nat) (news : List UInt8) (hm : news.length = m)
    (hnews : ∀ j u, (Lx.bv news)[j]? = some u → w.cell? ((⟨H, 0, none⟩ : Addr).add j) = some u) (h40 : l.length + m ≤ 1000000000) (hB : B ≤ w.heap.size) :
    ∃ v' w', (Builtin.append_ #[62, 62] ty #[v, .slice (some ⟨H, 0, none⟩) m c]).run Tryz.prog w = .ok v' w' ∧ TxB w' B v' (l ++ news) ∧ Below B w w' := by
  rcases h with h | h
  · obtain ⟨v', w', hr, h2, h3⟩ := Lx.run_appB (w := w) ty B v l.length l h H m c news hm hnews (by omega) hB
    exact ⟨v', w', hr, .inl (by rw [List.length_append, hm]; exact h2), h3⟩
  · exact runM_src w 62 ty B v l h hB _ m news (Src.ofSlice w Tryz.underlying62 ⟨H, 0, none⟩ m c (Lx.bv news) (by rw [Lx.bv_len, hm]; omega) hnews (Lx.bv_one _)) h40
theorem bv_cells (s : ByteArray) : byteCells s = Lx.bv s.data.toList := by
  first | rfl | (unfold byteCells Lx.bv; rfl) | (unfold byteCells Lx.bv; simp)
theorem str_cells (s : ByteArray) : Lib.strCells s = Lx.bv s.data.toList := by
  first | rfl | (unfold Lib.strCells Lx.bv; rfl) | (unfold Lib.strCells Lx.bv; simp)
/-- A text is appended. -/
theorem run_appS {w : World} (ty : TypeId) (B : Nat) (v : Value) (l : List UInt8) (h : TxB w B v l) (s : ByteArray) (h40 : l.length + s.size ≤ 1000000000) (hB : B ≤ w.heap.size) :
    ∃ v' w', (Builtin.append_ #[62, 9] ty #[v, .string s]).run Tryz.prog w = .ok v' w' ∧ TxB w' B v' (l ++ s.data.toList) ∧ Below B w w' := by
  rcases h with h | h
  · obtain ⟨i, hi, hz0, hz1, hz2⟩ := info_parts Lx.info5
    obtain ⟨v', w', hr, h2, h3, -⟩ := Lib.run_append_own_string (P := Tryz.prog) w B 62 9 ty 5 i Tryz.underlying62 Tryz.underlying9 hi hz0 hz1 hz2 v l.length (Lx.bv l) h s (by unfold maxLen; omega) (by omega) hB
    refine ⟨v', w', hr, .inl ?_, (Below.refl B w).grown h3 hB (Lx.own_ge h)⟩
    rw [List.length_append, ← Lib.size_eq, Lx.bv_app, ← str_cells]
    exact h2
  · exact runM_src w 9 ty B v l h hB _ s.size s.data.toList (by rw [← bv_cells]; exact Src.ofString w Tryz.underlying9 s) h40
end Go.Proofs.YtichbejmelkjeaaGreatDoor

namespace Go.Proofs.YtichbejmelkjeaaGreatDoor
open Go.RowKit

theorem wpList_appT {w : World} {ops : Array Oper} {rest : List Oper} {o : Oper} {a : Act} {Q : Exit → Act → World → Prop} (hgd : o.guard = none) (s x : Operand)
    (ho : o.op = .call { callee := .builtin .append, args := #[s, x], argTypes := #[62, 62] })
    (B : Nat) (v : Value) (l : List UInt8) (hs : a.eval s = v) (hown : TxB w B v l) (H m c : Nat) (news : List UInt8) (hx : a.eval x = .slice (some ⟨H, 0, none⟩) m c) (hm : news.length = m)
    (hnews : ∀ j u, (Lx.bv news)[j]? = some u → w.cell? ((⟨H, 0, none⟩ : Addr).add j) = some u) (h40 : l.length + m ≤ 1000000000) (hbase : B ≤ w.heap.size)
    (h : ∀ v' w', TxB w' B v' (l ++ news) → Below B w w' → wpList Tryz.prog ops Q rest (a.put o.dst v') w') : wpList Tryz.prog ops Q (o :: rest) a w := by
  obtain ⟨v', w', hr, h2, h3⟩ := run_appT (w := w) o.type B v l hown H m c news hm hnews h40 hbase
  refine wpList_plain hgd fun K hK => ?_
  unfold Oper.wp execOp
  simp only [ho, resolve, invoke, builtin, Sem.run_bind, Sem.run_pure, Result.andThen_ok, List.map_toArray, List.map_cons, List.map_nil, hs, hx, hr]
  exact hK _ _ (h v' w' h2 h3)
theorem wpList_appS {w : World} {ops : Array Oper} {rest : List Oper} {o : Oper} {a : Act} {Q : Exit → Act → World → Prop} (hgd : o.guard = none) (s x : Operand)
    (ho : o.op = .call { callee := .builtin .append, args := #[s, x], argTypes := #[62, 9] })
    (B : Nat) (v : Value) (l : List UInt8) (hs : a.eval s = v) (hown : TxB w B v l) (y : ByteArray) (hx : a.eval x = .string y) (h40 : l.length + y.size ≤ 1000000000) (hbase : B ≤ w.heap.size)
    (h : ∀ v' w', TxB w' B v' (l ++ y.data.toList) → Below B w w' → wpList Tryz.prog ops Q rest (a.put o.dst v') w') : wpList Tryz.prog ops Q (o :: rest) a w := by
  obtain ⟨v', w', hr, h2, h3⟩ := run_appS (w := w) o.type B v l hown y h40 hbase
  refine wpList_plain hgd fun K hK => ?_
  unfold Oper.wp execOp
  simp only [ho, resolve, invoke, builtin, Sem.run_bind, Sem.run_pure, Result.andThen_ok, List.map_toArray, List.map_cons, List.map_nil, hs, hx, hr]
  exact hK _ _ (h v' w' h2 h3)
theorem step_appT {w : World} {ops : Array Oper} {o : Oper} {a : Act} {K : Act → World → Prop} {Q : Exit → Act → World → Prop} {E : Prop} (hgd : o.guard = none) (s x : Operand)
    (ho : o.op = .call { callee := .builtin .append, args := #[s, x], argTypes := #[62, 62] })
    (B : Nat) (v : Value) (l : List UInt8) (hs : a.eval s = v) (hown : TxB w B v l) (H m c : Nat) (news : List UInt8) (hx : a.eval x = .slice (some ⟨H, 0, none⟩) m c) (hm : news.length = m)
    (hnews : ∀ j u, (Lx.bv news)[j]? = some u → w.cell? ((⟨H, 0, none⟩ : Addr).add j) = some u) (h40 : l.length + m ≤ 1000000000) (hbase : B ≤ w.heap.size)
    (h : ∀ v' w', TxB w' B v' (l ++ news) → Below B w w' → K (a.put o.dst v') w') : if Region.wanted o (yielded ops a.tmps) = true then Oper.wp Tryz.prog o a w K Q else E := by
  have hw : Region.wanted o (yielded ops a.tmps) = true := by simp [Region.wanted, hgd]
  rw [if_pos hw]
  obtain ⟨v', w', hr, h2, h3⟩ := run_appT (w := w) o.type B v l hown H m c news hm hnews h40 hbase
  unfold Oper.wp execOp
  simp only [ho, resolve, invoke, builtin, Sem.run_bind, Sem.run_pure, Result.andThen_ok, List.map_toArray, List.map_cons, List.map_nil, hs, hx, hr]
  exact h v' w' h2 h3

def sh (c : UInt8) : List UInt8 := if c = 10 then [92, 110] else if c = 92 then [92, 92] else if 32 ≤ c.toNat ∧ c.toNat ≤ 126 then [c] else [92, 120, Lx.hx (c.toNat / 16), Lx.hx (c.toNat % 16)]
theorem sh_len (c : UInt8) : (sh c).length ≤ 4 := by
  unfold sh
  split
  · simp
  · split
    · simp
    · split <;> simp
theorem bits_and15_all : ∀ n : Fin 256, bits BinOp.and IntKind.u8 ((n.val : Nat) : Int) 15 = ((n.val : Nat) : Int) % 16 := by decide +kernel
theorem bits_and15 (c : UInt8) : bits BinOp.and IntKind.u8 (c.toNat : Int) 15 = (c.toNat : Int) % 16 := bits_and15_all ⟨c.toNat, UInt8.toNat_lt c⟩
theorem hx_get (k : Nat) (h : k < ByteArray.size ⟨#[48, 49, 50, 51, 52, 53, 54, 55, 56, 57, 97, 98, 99, 100, 101, 102]⟩) : (⟨#[48, 49, 50, 51, 52, 53, 54, 55, 56, 57, 97, 98, 99, 100, 101, 102]⟩ : ByteArray)[k]'h = Lx.hx k := by
  have hk : k < 16 := h
  have h : k = 0 ∨ k = 1 ∨ k = 2 ∨ k = 3 ∨ k = 4 ∨ k = 5 ∨ k = 6 ∨ k = 7 ∨ k = 8 ∨ k = 9 ∨ k = 10 ∨ k = 11 ∨ k = 12 ∨ k = 13 ∨ k = 14 ∨ k = 15 := by omega
  rcases h with rfl | rfl | rfl | rfl | rfl | rfl | rfl | rfl | rfl | rfl | rfl | rfl | rfl | rfl | rfl | rfl
  all_goals rfl
theorem hx_get_quo (c : UInt8) (h : ((c.toNat : Int) / 16).toNat < ByteArray.size ⟨#[48, 49, 50, 51, 52, 53, 54, 55, 56, 57, 97, 98, 99, 100, 101, 102]⟩) : (⟨#[48, 49, 50, 51, 52, 53, 54, 55, 56, 57, 97, 98, 99, 100, 101, 102]⟩ : ByteArray)[((c.toNat : Int) / 16).toNat]'h = Lx.hx (c.toNat / 16) := by
  rw [hx_get]
  congr 1
theorem hx_get_rem (c : UInt8) (h : ((c.toNat : Int) % 16).toNat < ByteArray.size ⟨#[48, 49, 50, 51, 52, 53, 54, 55, 56, 57, 97, 98, 99, 100, 101, 102]⟩) : (⟨#[48, 49, 50, 51, 52, 53, 54, 55, 56, 57, 97, 98, 99, 100, 101, 102]⟩ : ByteArray)[((c.toNat : Int) % 16).toNat]'h = Lx.hx (c.toNat % 16) := by
  rw [hx_get]
  congr 1

set_option maxRecDepth 100000 in
set_option maxHeartbeats 1000000 in
theorem shown_any (c : UInt8) (B : Nat) (v : Value) (l : List UInt8) (w : World) (hown : TxB w B v l) (h40 : l.length + 4 ≤ 1000000000) (hbase : B ≤ w.heap.size) :
    Calls Tryz.prog 22 #[v, .int .u8 (c.toNat : Int)] w fun e w' => ∃ v', e = .returned v' ∧ TxB w' B v' (l ++ sh c) ∧ Below B w w' := by
  have hc := UInt8.toNat_lt c
  have HO : Hid (TxB w B v l) := hown
  clear hown
  by_cases h1 : c = 10
  · subst h1
    have e : sh 10 = [92, 110] := rfl
    rw [e]
    clear e
    go_enter Tryz.func22, Tryz.ntmps22
    go_wp2_with (first
      | (at_builtin; refine wpList_appT (by rfl) _ _ (by rfl) B v l (by rfl) (HO.out.alloc _) w.heap.size 2 2 [92, 110] (by rfl) (by rfl) (World.news_of_block (heap_alloc_new w _)) (by omega) (by simp; omega) ?_; intro v' w' ho hb)
      | go_in)
    go_ret
    exact ⟨_, rfl, ho, Lx.Below.after_alloc hb hbase⟩
  have b1 : ((c.toNat : Int) == 10) = false := by
    rw [beq_eq_false_iff_ne]
    intro e
    exact h1 (UInt8.toNat_inj.1 (by show c.toNat = 10; omega))
  by_cases h2 : c = 92
  · have e : sh c = [92, 92] := by unfold sh; rw [if_neg h1, if_pos h2]
    rw [e]
    clear e b1
    subst h2
    clear h1
    go_enter Tryz.func22, Tryz.ntmps22
    go_wp2_with (first
      | (at_builtin; refine wpList_appT (by rfl) _ _ (by rfl) B v l (by rfl) (HO.out.alloc _) w.heap.size 2 2 [92, 92] (by rfl) (by rfl) (World.news_of_block (heap_alloc_new w _)) (by omega) (by simp; omega) ?_; intro v' w' ho hb)
      | go_in)
    go_ret
    exact ⟨_, rfl, ho, Lx.Below.after_alloc hb hbase⟩
  have b3 : ((c.toNat : Int) == 92) = false := by
    rw [beq_eq_false_iff_ne]
    intro e
    exact h2 (UInt8.toNat_inj.1 (by show c.toNat = 92; omega))
  by_cases h3 : 32 ≤ c.toNat ∧ c.toNat ≤ 126
  · have e : sh c = [c] := by unfold sh; rw [if_neg h1, if_neg h2, if_pos h3]
    rw [e]
    have g1 : (32 : Int) ≤ (c.toNat : Int) := by omega
    have g2 : (c.toNat : Int) ≤ 126 := by omega
    clear e h1 h2 h3
    go_enter Tryz.func22, Tryz.ntmps22
    go_wp2_with (first
      | (at_builtin; refine wpList_appT (by rfl) _ _ (by rfl) B v l (by rfl) (HO.out.alloc _) w.heap.size 1 1 [c] (by rfl) (by rfl) (World.news_of_block (heap_alloc_new w _)) (by omega) (by simp; omega) ?_; intro v' w' ho hb)
      | go_in)
    go_ret
    exact ⟨_, rfl, ho, Lx.Below.after_alloc hb hbase⟩
  · have e : sh c = [92, 120, Lx.hx (c.toNat / 16), Lx.hx (c.toNat % 16)] := by unfold sh; rw [if_neg h1, if_neg h2, if_neg h3]
    rw [e]
    have hq0 : (0 : Int) ≤ (c.toNat : Int) / 16 := by omega
    have hq1 : (c.toNat : Int) / 16 < 16 := by omega
    have hm0 : (0 : Int) ≤ (c.toNat : Int) % 16 := by omega
    have hm1 : (c.toNat : Int) % 16 < 16 := by omega
    have hand := bits_and15 c
    have ho2 : ¬ (32 : Int) ≤ (c.toNat : Int) ∨ ((32 : Int) ≤ (c.toNat : Int) ∧ ¬ (c.toNat : Int) ≤ 126) := by omega
    clear e h1 h2 h3
    rcases ho2 with g1 | ⟨g1, g2⟩
    all_goals
      go_enter Tryz.func22, Tryz.ntmps22
      go_wp2_with fail
      go_region_law ((refine step_appT (by rfl) _ _ (by rfl) B v l (by rfl) (HO.out.drew.alloc _) _ 4 4 [92, 120, _, _] (by rfl) (by rfl) (World.news_of_block (heap_alloc_new _ _)) (by omega) (by simp; omega) ?_; intro v' w' ho hb))
      all_goals rw [hx_get_quo c, hx_get_rem c] at ho
      all_goals go_wp2
      all_goals go_ret
      all_goals exact ⟨_, rfl, ho, (((Below.refl B w).alloc hbase _).drew).trans hb⟩
end Go.Proofs.YtichbejmelkjeaaGreatDoor
