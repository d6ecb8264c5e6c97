import Derived.Test.YtekgnogjfggnmaaGreatDoorN14
import Derived.Test.YtekgnogjfggnmaaGreatDoorN18
import Derived.Test.YtekgnogjfggnmaaGreatDoorN12
namespace Go.Proofs.YtekgnogjfggnmaaGreatDoor
open Go.RowKit
set_option maxHeartbeats 400000
theorem clone_any (s : ByteArray) (w : World) (hs : s.size ≤ 281474976710656) : Calls Tryz.prog 114 #[.string s] w fun e w' => e = .returned (.string s) ∧ Below w.heap.size w w' := by
 go_enter Tryz.func114, Tryz.ntmps114
 go_wp2_with (go_at_call 135; refine (Tryz.stringslite_Clone s w hs).mono ?_; rintro e w1 ⟨rfl, hb1⟩)
 go_ret
 exact ⟨rfl, hb1⟩
theorem lay_of_own {w : World} {base B cap : Nat} {L : List Nd} (h : w.ownsRow base 42 9 (.slice (some ⟨B, 0, none⟩) L.length cap) L.length (flat L)) : base ≤ B ∧ Lay w B 0 L ∧ w.there B 0 (L.length * 9) := by
 rcases h.2 with ⟨h0, _⟩ | ⟨g, c, cur, hv, hb, hg, hnc, hcm, hcs, htake⟩
 ·cases h0
 ·cases hv
  have hlt : B < w.heap.size := (Array.getElem?_eq_some_iff.1 hg).1
  refine ⟨hb, lay_of_range hlt fun j v hv => ?_, fun j hj => ⟨?_, ?_⟩⟩
  ·have := h.cells (g := B) rfl j v hv
   rw [show (⟨B, 0, none⟩ : Addr).add j = ⟨B, j, none⟩ by by_cases hj : j = 0 <;> simp [Addr.add, hj]] at this
   rw [Nat.zero_add]
   exact this
  ·simp only [World.cell?, hg]
   have : 0 + j < cur.size := by rw [hcs]; have := Nat.mul_le_mul_right 9 hnc; omega
   simp only [Nat.zero_add] at this
   simp [this]
  ·simp only [World.frozen?, hg]
   simp
theorem wpList_app9 {w w' : World} {ops : Array Oper} {rest : List Oper} {o : Oper} {a : Act} {Q : Exit → Act → World → Prop} {v' : Value} (hgd : o.guard = none) (s x : Operand)
 (ho : o.op = .call { callee := .builtin .append, args := #[s, x], argTypes := #[22, 22] }) (hr : (Builtin.append_ #[22, 22] o.type #[a.eval s, a.eval x]).run Tryz.prog w = .ok v' w')
 (h : wpList Tryz.prog ops Q rest (a.put o.dst v') w') : wpList Tryz.prog ops Q (o :: rest) a w := by
 refine wpList_plain hgd fun K hK => ?_
 unfold Oper.wp execOp
 simp only [ho, resolve, invoke, builtin, Sem.run_bind, Sem.run_pure, Result.andThen_ok, List.map_toArray, List.map_cons, List.map_nil, hr]
 exact hK _ _ h
end Go.Proofs.YtekgnogjfggnmaaGreatDoor
