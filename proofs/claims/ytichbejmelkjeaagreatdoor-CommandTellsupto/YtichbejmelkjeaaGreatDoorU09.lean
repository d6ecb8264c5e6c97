import Derived.Laws.IdiomStrings
import Derived.Lib.SmallJoins
import Derived.Test.YtichbejmelkjeaaGreatDoorU04
namespace Go.Proofs.YtichbejmelkjeaaGreatDoor.Lx
open Go.RowKit

theorem conv_own {w : World} {base : Nat} {v : Value} {n : Nat} {l : List UInt8} (h : w.ownsRow base 5 1 v n (bv l)) : (convert 62 9 v).run Tryz.prog w = .ok (.string ⟨l.toArray⟩) w := by
  have hn : n = l.length := by have := h.1; rw [bv_len] at this; omega
  rcases h.2 with ⟨rfl, h0⟩ | ⟨g, cap, cur, rfl, hb, hg, hnc, hcm, hcs, htake⟩
  · have hl : l = [] := List.eq_nil_of_length_eq_zero (by omega)
    subst hl
    exact run_convert_bytes_nil w 62 5 Tryz.underlying62 Tryz.underlying5 0 0 9 Tryz.underlying9
  · subst hn
    refine run_convert_bytes_back (P := Tryz.prog) w 62 9 5 ⟨g, 0, none⟩ cap l Tryz.underlying62 Tryz.underlying5 Tryz.underlying9 (fun j hj => ?_)
    exact h.cells (g := g) rfl j _ (by unfold bv; rw [List.getElem?_map, List.getElem?_eq_getElem hj]; rfl)



/-- One byte is appended; the world before and all that is owned is carried along. -/
theorem wpList_app1 {w0 w : World} {ops : Array Oper} {rest : List Oper} {o : Oper} {a : Act} {Q : Exit → Act → World → Prop} (hgd : o.guard = none) (s x : Operand)
    (ho : o.op = .call { callee := .builtin .append, args := #[s, x], argTypes := #[62, 62] })
    (v : Value) (n : Nat) (l : List UInt8) (hs : a.eval s = v) (hown : Hid (w.ownsRow w0.heap.size 5 1 v n (bv l))) (hB : Hid (Below w0.heap.size w0 w)) (c : UInt8) (hx : a.eval x = .slice (some ⟨w.heap.size, 0, none⟩) 1 1)
    (h40 : n + 1 ≤ 1099511627776)
    (h : ∀ v' w', Hid (w'.ownsRow w0.heap.size 5 1 v' (n + 1) (bv (l ++ [c]))) → Hid (Below w0.heap.size w0 w') → wpList Tryz.prog ops Q rest (a.put o.dst v') w') : wpList Tryz.prog ops Q (o :: rest) a (w.alloc (.cells #[.int .u8 (c.toNat : Int)] 5)) :=
  wpList_appB hgd s x ho w0.heap.size v n l hs (hown.out.alloc _) w.heap.size 1 1 [c] hx rfl (World.news_of_block (heap_alloc_new w _)) h40 (by have := hB.out.size; simp; omega)
    (fun v' w' h1 h2 => h v' w' h1 (hB.out.trans (Below.after_alloc h2 hB.out.size)))

theorem build1 (c : UInt8) (w : World) : ∃ w0, w0 = w.alloc (.cells #[.int .u8 (c.toNat : Int)] 5) ∧ w0.ownsRow w.heap.size 5 1 (.slice (some ⟨w.heap.size, 0, none⟩) 1 1) 1 (bv [c]) ∧ Below w.heap.size w w0 := by
  refine ⟨_, rfl, ⟨rfl, Or.inr ⟨w.heap.size, 1, _, rfl, Nat.le_refl _, heap_alloc_new w _, Nat.le_refl _, by unfold maxLen; omega, rfl, rfl⟩⟩, (Below.refl _ w).alloc (Nat.le_refl _) _⟩

end Go.Proofs.YtichbejmelkjeaaGreatDoor.Lx

namespace Go.Proofs.YtichbejmelkjeaaGreatDoor.Vs.Lx
open Go.RowKit

theorem conv_own {w : World} {base : Nat} {v : Value} {n : Nat} {l : List UInt8} (h : w.ownsRow base 5 1 v n (bv l)) : (convert 62 9 v).run Tryz.prog w = .ok (.string ⟨l.toArray⟩) w := by
  have hn : n = l.length := by have := h.1; rw [bv_len] at this; omega
  rcases h.2 with ⟨rfl, h0⟩ | ⟨g, cap, cur, rfl, hb, hg, hnc, hcm, hcs, htake⟩
  · have hl : l = [] := List.eq_nil_of_length_eq_zero (by omega)
    subst hl
    exact run_convert_bytes_nil w 62 5 Tryz.underlying62 Tryz.underlying5 0 0 9 Tryz.underlying9
  · subst hn
    refine run_convert_bytes_back (P := Tryz.prog) w 62 9 5 ⟨g, 0, none⟩ cap l Tryz.underlying62 Tryz.underlying5 Tryz.underlying9 (fun j hj => ?_)
    exact h.cells (g := g) rfl j _ (by unfold bv; rw [List.getElem?_map, List.getElem?_eq_getElem hj]; rfl)

theorem build1 (c : UInt8) (w : World) : ∃ w0, w0 = w.alloc (.cells #[.int .u8 (c.toNat : Int)] 5) ∧ w0.ownsRow w.heap.size 5 1 (.slice (some ⟨w.heap.size, 0, none⟩) 1 1) 1 (bv [c]) ∧ Below w.heap.size w w0 := by
  refine ⟨_, rfl, ⟨rfl, Or.inr ⟨w.heap.size, 1, _, rfl, Nat.le_refl _, heap_alloc_new w _, Nat.le_refl _, by unfold maxLen; omega, rfl, rfl⟩⟩, (Below.refl _ w).alloc (Nat.le_refl _) _⟩

set_option maxRecDepth 100000 in
set_option maxHeartbeats 1000000 in
theorem quoted_any (s b : ByteArray) (w : World) (hs : s.size ≤ 68719476736) (hb : Hid (b = ⟨(qt s.data.toList).toArray⟩)) :
    Calls Tryz.prog 35 #[.string s] w fun e w' => e = .returned (.string b) ∧ Below w.heap.size w w' := by
  obtain ⟨w0, hw0, ho0, hB0⟩ := build1 34 w
  have HW : Hid (w0 = w.alloc (.cells #[.int .u8 ((34 : UInt8).toNat : Int)] 5)) := hw0
  have HO0 : Hid (w0.ownsRow w.heap.size 5 1 (.slice (some ⟨w.heap.size, 0, none⟩) 1 1) 1 (bv [34])) := ho0
  have HB0 : Hid (Below w.heap.size w w0) := hB0
  clear hw0 ho0 hB0
  go_enter Tryz.func35, Tryz.ntmps35
  go_wp2
  go_loopw [3, 8] (fun v i wr => ∃ k : Nat, k ≤ s.size ∧ i = .int .i64 (k : Int) ∧ Hid (wr.ownsRow w.heap.size 5 1 v (34 :: pcs (s.data.toList.take k)).length (bv (34 :: pcs (s.data.toList.take k)))) ∧ Hid (Below w.heap.size w wr)) (fun _ i _ => s.size - (intOf i).toNat)
  case atStart => exact ⟨0, Nat.zero_le _, rfl, by have := HW.out; subst this; exact HO0.out, by have := HW.out; subst this; exact HB0.out⟩
  case round =>
    clear HO0 HB0 HW
    obtain ⟨k, hk, rfl, ho, hB⟩ := hrel
    have HS : Hid (s.size = s.data.toList.length) := Lib.size_eq s
    have hlen : (34 :: pcs (s.data.toList.take k)).length ≤ 1 + 4 * k := by
      have := pcs_len (s.data.toList.take k)
      rw [List.length_take] at this
      rw [List.length_cons]
      omega
    by_cases hlt : k < s.size
    · go_wp2_with (first
        | (go_at_call 61; refine (appendShown_any _ w.heap.size _ _ _ wr ho.out (by omega) hB.out.size).mono ?_; rintro e w2 ⟨v2, rfl, ho2, hb2⟩)
        | go_in)
      refine ⟨⟨k + 1, by omega, by go_num, ?_, hB.out.trans hb2⟩, by simp [intOf]; omega⟩
      have hst := pcs_step s.data.toList k (by rw [← HS.out]; exact hlt)
      rw [hst, ← List.cons_append, List.length_append]
      exact ho2
    · obtain rfl : k = s.size := by omega
      have HOk := ho
      have etk : List.take s.size s.data.toList = s.data.toList := by rw [HS.out, List.take_length]
      rw [etk] at HOk hlen
      clear etk
      clear ho
      have hfin : (⟨(34 :: pcs s.data.toList ++ [34]).toArray⟩ : ByteArray) = b := hb.out.symm
      have HF : Hid ((⟨(34 :: pcs s.data.toList ++ [34]).toArray⟩ : ByteArray) = b) := hfin
      clear hfin
      generalize hL : 34 :: pcs s.data.toList = L at HOk HF hlen
      have HL : Hid (34 :: pcs s.data.toList = L) := hL
      clear hL
      go_wp2_with (first
        | (at_builtin; refine wpList_appB (by rfl) _ _ (by rfl) w.heap.size _ L.length L (by rfl) (HOk.out.alloc _) wr.heap.size 1 1 [34] (by rfl) (by rfl) (World.news_of_block (heap_alloc_new wr _)) (by omega) (by have := hB.out.size; simp; omega) ?_; intro v2 w2 ho2 hb2; have hcv := conv_own ho2; rw [HF.out] at hcv)
        | go_in)
      go_ret
      exact ⟨rfl, hB.out.trans (Below.after_alloc hb2 hB.out.size)⟩
end Go.Proofs.YtichbejmelkjeaaGreatDoor.Vs.Lx
