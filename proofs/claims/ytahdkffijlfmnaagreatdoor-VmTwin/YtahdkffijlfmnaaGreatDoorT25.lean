import Derived.Test.YtahdkffijlfmnaaGreatDoorT24
import Derived.Test.YtahdkffijlfmnaaGreatDoorT17
import Derived.Test.YtahdkffijlfmnaaGreatDoorT09
namespace Go.Proofs.YtahdkffijlfmnaaGreatDoor
open Go.RowKit
open Hp (V vc vcs)
structure RdS (w : World) (q : Option Addr) (n cap : Nat) (xs : List Value) : Prop where
  nil : q = none → n = 0
  at_ : 0 < n → ∃ g o, q = some ⟨g, o, none⟩ ∧ w.rangeAt g o xs
theorem RdS.next {w w' : World} {q : Option Addr} {n cap : Nat} {xs : List Value} (h : RdS w q n cap xs) (hl : 0 < n → 0 < xs.length) (k : Below w.heap.size w w') : RdS w' q n cap xs := ⟨h.nil, fun h0 => by
  obtain ⟨g, o, e, r⟩ := h.at_ h0
  exact ⟨g, o, e, range_same r (k.block g (block_lt_of_cell (r 0 _ (List.getElem?_eq_getElem (hl h0)))))⟩⟩
theorem run_clone {P : Program} (w : World) (t ty e : TypeId) (z : Value) (size bytes : Nat) (ht : P.underlying t = some (.slice e)) (hinf : (P.info? e).map (fun i => (i.zero, i.size, i.bytes)) = some (some z, size, bytes)) (hzs : z.cells.size = size) (hsz : 0 < size) (hby : bytes ≤ 100)
    (a : Addr) (n cap : Nat) (xs : List Value) (hx : xs.length = n * size) (hq : 0 < n → ∃ g o, a = ⟨g, o, none⟩ ∧ w.rangeAt g o xs) (h1 : ∀ u ∈ xs, u.oneCell' = true) (h40 : n ≤ 1000000000) :
    ∃ v' w', (Builtin.append_ #[t, t] ty #[.slice (some ⟨w.heap.size, 0, none⟩) 0 0, .slice (some a) n cap]).run P (w.alloc (.cells #[] e)) = .ok v' w' ∧ w'.ownsRow w.heap.size e size v' n xs ∧ Below w.heap.size w w' := by
  obtain ⟨i, hi, hz0, hz1, hz2⟩ := info_parts hinf
  have hb : (0 + n) * bytes ≤ 140737488355328 := by rw [Nat.zero_add]; exact Nat.le_trans (Nat.mul_le_mul h40 hby) (by decide)
  have bA : Below w.heap.size w (w.alloc (.cells #[] e)) := (Below.refl _ w).alloc (Nat.le_refl _) _
  have ho : (w.alloc (.cells #[] e)).ownsRow w.heap.size e size (.slice (some ⟨w.heap.size, 0, none⟩) 0 0) 0 [] := ⟨by simp, .inr ⟨w.heap.size, 0, #[], rfl, Nat.le_refl _, World.alloc_heap_new w _, Nat.le_refl _, by unfold maxLen; omega, by simp, by simp⟩⟩
  obtain ⟨v', w', a1, a2, a3, -, -⟩ := run_append_own_at (P := P) (w.alloc (.cells #[] e)) w.heap.size t ty e i z size bytes ht hi hz0 hz1 hz2 hzs hsz _ 0 [] ho a n cap xs hx (fun j u hu => by
    have hn : 0 < n := by
      rcases Nat.eq_zero_or_pos n with r | r
      · rw [r, Nat.zero_mul] at hx
        rw [List.eq_nil_of_length_eq_zero hx] at hu
        cases hu
      · exact r
    obtain ⟨g, o, rfl, r⟩ := hq hn
    rw [Addr.add_mid]
    have := r j u hu
    exact (bA.cell (p := ⟨g, o + j, none⟩) (block_lt_of_cell this)).trans this) h1 (by unfold maxLen; omega) hb (by simp)
  rw [Nat.zero_add, List.nil_append] at a2
  refine ⟨v', w', a1, a2, ⟨a3.os.trans bA.os, a3.tape.trans bA.tape, a3.output.trans bA.output, Nat.le_trans bA.size a3.size, fun b hb => (a3.block b (Nat.lt_of_lt_of_le hb bA.size) fun q => ?_).trans (bA.block b hb)⟩⟩
  have q : some b = some w.heap.size := q
  cases q
  omega
theorem infoC_Int64 : (Tryz.prog.info? 2).map (fun i => (i.zero, i.size, i.bytes)) = some (some (.int .i64 0), 1, 8) := by kernel_rfl
set_option maxRecDepth 100000 in
set_option maxHeartbeats 2000000 in
theorem cloneInt64_any {w : World} {q : Option Addr} {n cap : Nat} {xs : List Value} (h : RdS w q n cap xs) (hx : xs.length = n * 1) (h1 : ∀ u ∈ xs, u.oneCell' = true) (hn : n ≤ 1000000000) :
    Calls Tryz.prog 24 #[.slice q n cap] w fun z w' => ∃ v', z = .returned v' ∧ Hid (w'.ownsRow w.heap.size 2 1 v' n xs) ∧ Below w.heap.size w w' := by
  cases q with
  | none =>
    obtain rfl := h.nil rfl
    have HX : Hid (xs = []) := List.eq_nil_of_length_eq_zero (by omega)
    have hnl : ∀ w : World, (binOp .eql 27 (.slice none 0 cap) (.slice none 0 0)).run Tryz.prog w = .ok (.bool true) w := fun w => by kernel_rfl
    clear h
    go_enter Tryz.func24, Tryz.ntmps24
    go_wp2
    go_ret
    exact ⟨_, rfl, by rw [HX.out]; exact ⟨by simp, .inl ⟨rfl, rfl⟩⟩, Below.refl _ _⟩
  | some a =>
    obtain ⟨v', w', r1, r2, r3⟩ := run_clone (P := Tryz.prog) w 27 27 2 _ 1 8 Tryz.underlying27 infoC_Int64 (by rfl) (by decide) (by decide) a n cap xs hx (fun h0 => by obtain ⟨g, o, e, r⟩ := h.at_ h0; cases e; exact ⟨g, o, rfl, r⟩) h1 hn
    have HR : Hid (w'.ownsRow w.heap.size 2 1 v' n xs ∧ Below w.heap.size w w') := ⟨r2, r3⟩
    obtain ⟨q2, c2, e2, -, -⟩ := own_slice r2
    subst e2
    have hnl : ∀ w : World, (binOp .eql 27 (.slice (some a) n cap) (.slice none 0 0)).run Tryz.prog w = .ok (.bool false) w := fun w => by kernel_rfl
    clear h r2 r3 hx h1 hn
    go_enter Tryz.func24, Tryz.ntmps24
    go_wp2_with (first
      | (at_builtin; refine wpList_apv (by rfl) _ _ 27 _ _ (by rfl) 27 (by rfl) (by rfl) (by rfl) r1 ?_)
      | fail)
    go_ret
    exact ⟨_, rfl, HR.out.1, HR.out.2⟩
theorem infoC_Instr : (Tryz.prog.info? 86).map (fun i => (i.zero, i.size, i.bytes)) = some (some (.agg #[.int .i64 0, .int .i64 0, .int .i64 0]), 3, 24) := by kernel_rfl
set_option maxRecDepth 100000 in
set_option maxHeartbeats 2000000 in
theorem cloneInstr_any {w : World} {q : Option Addr} {n cap : Nat} {xs : List Value} (h : RdS w q n cap xs) (hx : xs.length = n * 3) (h1 : ∀ u ∈ xs, u.oneCell' = true) (hn : n ≤ 1000000000) :
    Calls Tryz.prog 45 #[.slice q n cap] w fun z w' => ∃ v', z = .returned v' ∧ Hid (w'.ownsRow w.heap.size 86 3 v' n xs) ∧ Below w.heap.size w w' := by
  cases q with
  | none =>
    obtain rfl := h.nil rfl
    have HX : Hid (xs = []) := List.eq_nil_of_length_eq_zero (by omega)
    have hnl : ∀ w : World, (binOp .eql 22 (.slice none 0 cap) (.slice none 0 0)).run Tryz.prog w = .ok (.bool true) w := fun w => by kernel_rfl
    clear h
    go_enter Tryz.func45, Tryz.ntmps45
    go_wp2
    go_ret
    exact ⟨_, rfl, by rw [HX.out]; exact ⟨by simp, .inl ⟨rfl, rfl⟩⟩, Below.refl _ _⟩
  | some a =>
    obtain ⟨v', w', r1, r2, r3⟩ := run_clone (P := Tryz.prog) w 22 22 86 _ 3 24 Tryz.underlying22 infoC_Instr (by rfl) (by decide) (by decide) a n cap xs hx (fun h0 => by obtain ⟨g, o, e, r⟩ := h.at_ h0; cases e; exact ⟨g, o, rfl, r⟩) h1 hn
    have HR : Hid (w'.ownsRow w.heap.size 86 3 v' n xs ∧ Below w.heap.size w w') := ⟨r2, r3⟩
    obtain ⟨q2, c2, e2, -, -⟩ := own_slice r2
    subst e2
    have hnl : ∀ w : World, (binOp .eql 22 (.slice (some a) n cap) (.slice none 0 0)).run Tryz.prog w = .ok (.bool false) w := fun w => by kernel_rfl
    clear h r2 r3 hx h1 hn
    go_enter Tryz.func45, Tryz.ntmps45
    go_wp2_with (first
      | (at_builtin; refine wpList_apv (by rfl) _ _ 22 _ _ (by rfl) 22 (by rfl) (by rfl) (by rfl) r1 ?_)
      | fail)
    go_ret
    exact ⟨_, rfl, HR.out.1, HR.out.2⟩
theorem infoC_Entry : (Tryz.prog.info? 71).map (fun i => (i.zero, i.size, i.bytes)) = some (some (.agg #[.string Hp.e0, .int .i64 0, .int .i64 0, .slice none 0 0, .int .i64 0]), 5, 64) := by kernel_rfl
set_option maxRecDepth 100000 in
set_option maxHeartbeats 2000000 in
theorem cloneEntry_any {w : World} {q : Option Addr} {n cap : Nat} {xs : List Value} (h : RdS w q n cap xs) (hx : xs.length = n * 5) (h1 : ∀ u ∈ xs, u.oneCell' = true) (hn : n ≤ 1000000000) :
    Calls Tryz.prog 46 #[.slice q n cap] w fun z w' => ∃ v', z = .returned v' ∧ Hid (w'.ownsRow w.heap.size 71 5 v' n xs) ∧ Below w.heap.size w w' := by
  cases q with
  | none =>
    obtain rfl := h.nil rfl
    have HX : Hid (xs = []) := List.eq_nil_of_length_eq_zero (by omega)
    have hnl : ∀ w : World, (binOp .eql 23 (.slice none 0 cap) (.slice none 0 0)).run Tryz.prog w = .ok (.bool true) w := fun w => by kernel_rfl
    clear h
    go_enter Tryz.func46, Tryz.ntmps46
    go_wp2
    go_ret
    exact ⟨_, rfl, by rw [HX.out]; exact ⟨by simp, .inl ⟨rfl, rfl⟩⟩, Below.refl _ _⟩
  | some a =>
    obtain ⟨v', w', r1, r2, r3⟩ := run_clone (P := Tryz.prog) w 23 23 71 _ 5 64 Tryz.underlying23 infoC_Entry (by rfl) (by decide) (by decide) a n cap xs hx (fun h0 => by obtain ⟨g, o, e, r⟩ := h.at_ h0; cases e; exact ⟨g, o, rfl, r⟩) h1 hn
    have HR : Hid (w'.ownsRow w.heap.size 71 5 v' n xs ∧ Below w.heap.size w w') := ⟨r2, r3⟩
    obtain ⟨q2, c2, e2, -, -⟩ := own_slice r2
    subst e2
    have hnl : ∀ w : World, (binOp .eql 23 (.slice (some a) n cap) (.slice none 0 0)).run Tryz.prog w = .ok (.bool false) w := fun w => by kernel_rfl
    clear h r2 r3 hx h1 hn
    go_enter Tryz.func46, Tryz.ntmps46
    go_wp2_with (first
      | (at_builtin; refine wpList_apv (by rfl) _ _ 23 _ _ (by rfl) 23 (by rfl) (by rfl) (by rfl) r1 ?_)
      | fail)
    go_ret
    exact ⟨_, rfl, HR.out.1, HR.out.2⟩
theorem infoC_String : (Tryz.prog.info? 9).map (fun i => (i.zero, i.size, i.bytes)) = some (some (.string Hp.e0), 1, 16) := by kernel_rfl
set_option maxRecDepth 100000 in
set_option maxHeartbeats 2000000 in
theorem cloneString_any {w : World} {q : Option Addr} {n cap : Nat} {xs : List Value} (h : RdS w q n cap xs) (hx : xs.length = n * 1) (h1 : ∀ u ∈ xs, u.oneCell' = true) (hn : n ≤ 1000000000) :
    Calls Tryz.prog 47 #[.slice q n cap] w fun z w' => ∃ v', z = .returned v' ∧ Hid (w'.ownsRow w.heap.size 9 1 v' n xs) ∧ Below w.heap.size w w' := by
  cases q with
  | none =>
    obtain rfl := h.nil rfl
    have HX : Hid (xs = []) := List.eq_nil_of_length_eq_zero (by omega)
    have hnl : ∀ w : World, (binOp .eql 24 (.slice none 0 cap) (.slice none 0 0)).run Tryz.prog w = .ok (.bool true) w := fun w => by kernel_rfl
    clear h
    go_enter Tryz.func47, Tryz.ntmps47
    go_wp2
    go_ret
    exact ⟨_, rfl, by rw [HX.out]; exact ⟨by simp, .inl ⟨rfl, rfl⟩⟩, Below.refl _ _⟩
  | some a =>
    obtain ⟨v', w', r1, r2, r3⟩ := run_clone (P := Tryz.prog) w 24 24 9 _ 1 16 Tryz.underlying24 infoC_String (by rfl) (by decide) (by decide) a n cap xs hx (fun h0 => by obtain ⟨g, o, e, r⟩ := h.at_ h0; cases e; exact ⟨g, o, rfl, r⟩) h1 hn
    have HR : Hid (w'.ownsRow w.heap.size 9 1 v' n xs ∧ Below w.heap.size w w') := ⟨r2, r3⟩
    obtain ⟨q2, c2, e2, -, -⟩ := own_slice r2
    subst e2
    have hnl : ∀ w : World, (binOp .eql 24 (.slice (some a) n cap) (.slice none 0 0)).run Tryz.prog w = .ok (.bool false) w := fun w => by kernel_rfl
    clear h r2 r3 hx h1 hn
    go_enter Tryz.func47, Tryz.ntmps47
    go_wp2_with (first
      | (at_builtin; refine wpList_apv (by rfl) _ _ 24 _ _ (by rfl) 24 (by rfl) (by rfl) (by rfl) r1 ?_)
      | fail)
    go_ret
    exact ⟨_, rfl, HR.out.1, HR.out.2⟩
theorem infoC_Sort : (Tryz.prog.info? 69).map (fun i => (i.zero, i.size, i.bytes)) = some (some (.int .i64 0), 1, 8) := by kernel_rfl
set_option maxRecDepth 100000 in
set_option maxHeartbeats 2000000 in
theorem cloneSort_any {w : World} {q : Option Addr} {n cap : Nat} {xs : List Value} (h : RdS w q n cap xs) (hx : xs.length = n * 1) (h1 : ∀ u ∈ xs, u.oneCell' = true) (hn : n ≤ 1000000000) :
    Calls Tryz.prog 49 #[.slice q n cap] w fun z w' => ∃ v', z = .returned v' ∧ Hid (w'.ownsRow w.heap.size 69 1 v' n xs) ∧ Below w.heap.size w w' := by
  cases q with
  | none =>
    obtain rfl := h.nil rfl
    have HX : Hid (xs = []) := List.eq_nil_of_length_eq_zero (by omega)
    have hnl : ∀ w : World, (binOp .eql 68 (.slice none 0 cap) (.slice none 0 0)).run Tryz.prog w = .ok (.bool true) w := fun w => by kernel_rfl
    clear h
    go_enter Tryz.func49, Tryz.ntmps49
    go_wp2
    go_ret
    exact ⟨_, rfl, by rw [HX.out]; exact ⟨by simp, .inl ⟨rfl, rfl⟩⟩, Below.refl _ _⟩
  | some a =>
    obtain ⟨v', w', r1, r2, r3⟩ := run_clone (P := Tryz.prog) w 68 68 69 _ 1 8 Tryz.underlying68 infoC_Sort (by rfl) (by decide) (by decide) a n cap xs hx (fun h0 => by obtain ⟨g, o, e, r⟩ := h.at_ h0; cases e; exact ⟨g, o, rfl, r⟩) h1 hn
    have HR : Hid (w'.ownsRow w.heap.size 69 1 v' n xs ∧ Below w.heap.size w w') := ⟨r2, r3⟩
    obtain ⟨q2, c2, e2, -, -⟩ := own_slice r2
    subst e2
    have hnl : ∀ w : World, (binOp .eql 68 (.slice (some a) n cap) (.slice none 0 0)).run Tryz.prog w = .ok (.bool false) w := fun w => by kernel_rfl
    clear h r2 r3 hx h1 hn
    go_enter Tryz.func49, Tryz.ntmps49
    go_wp2_with (first
      | (at_builtin; refine wpList_apv (by rfl) _ _ 68 _ _ (by rfl) 68 (by rfl) (by rfl) (by rfl) r1 ?_)
      | fail)
    go_ret
    exact ⟨_, rfl, HR.out.1, HR.out.2⟩
theorem infoC_Frame : (Tryz.prog.info? 89).map (fun i => (i.zero, i.size, i.bytes)) = some (some (.agg #[.int .i64 0, .int .i64 0, .slice none 0 0, .slice none 0 0]), 4, 64) := by kernel_rfl
set_option maxRecDepth 100000 in
set_option maxHeartbeats 2000000 in
theorem cloneFrame_any {w : World} {q : Option Addr} {n cap : Nat} {xs : List Value} (h : RdS w q n cap xs) (hx : xs.length = n * 4) (h1 : ∀ u ∈ xs, u.oneCell' = true) (hn : n ≤ 1000000000) :
    Calls Tryz.prog 33 #[.slice q n cap] w fun z w' => ∃ v', z = .returned v' ∧ Hid (w'.ownsRow w.heap.size 89 4 v' n xs) ∧ Below w.heap.size w w' := by
  cases q with
  | none =>
    obtain rfl := h.nil rfl
    have HX : Hid (xs = []) := List.eq_nil_of_length_eq_zero (by omega)
    have hnl : ∀ w : World, (binOp .eql 79 (.slice none 0 cap) (.slice none 0 0)).run Tryz.prog w = .ok (.bool true) w := fun w => by kernel_rfl
    clear h
    go_enter Tryz.func33, Tryz.ntmps33
    go_wp2
    go_ret
    exact ⟨_, rfl, by rw [HX.out]; exact ⟨by simp, .inl ⟨rfl, rfl⟩⟩, Below.refl _ _⟩
  | some a =>
    obtain ⟨v', w', r1, r2, r3⟩ := run_clone (P := Tryz.prog) w 79 79 89 _ 4 64 Tryz.underlying79 infoC_Frame (by rfl) (by decide) (by decide) a n cap xs hx (fun h0 => by obtain ⟨g, o, e, r⟩ := h.at_ h0; cases e; exact ⟨g, o, rfl, r⟩) h1 hn
    have HR : Hid (w'.ownsRow w.heap.size 89 4 v' n xs ∧ Below w.heap.size w w') := ⟨r2, r3⟩
    obtain ⟨q2, c2, e2, -, -⟩ := own_slice r2
    subst e2
    have hnl : ∀ w : World, (binOp .eql 79 (.slice (some a) n cap) (.slice none 0 0)).run Tryz.prog w = .ok (.bool false) w := fun w => by kernel_rfl
    clear h r2 r3 hx h1 hn
    go_enter Tryz.func33, Tryz.ntmps33
    go_wp2_with (first
      | (at_builtin; refine wpList_apv (by rfl) _ _ 79 _ _ (by rfl) 79 (by rfl) (by rfl) (by rfl) r1 ?_)
      | fail)
    go_ret
    exact ⟨_, rfl, HR.out.1, HR.out.2⟩
theorem infoC_Byte : (Tryz.prog.info? 5).map (fun i => (i.zero, i.size, i.bytes)) = some (some (.int .u8 0), 1, 1) := by kernel_rfl
set_option maxRecDepth 100000 in
set_option maxHeartbeats 2000000 in
theorem cloneByte_any {w : World} {q : Option Addr} {n cap : Nat} {xs : List Value} (h : RdS w q n cap xs) (hx : xs.length = n * 1) (h1 : ∀ u ∈ xs, u.oneCell' = true) (hn : n ≤ 1000000000) :
    Calls Tryz.prog 36 #[.slice q n cap] w fun z w' => ∃ v', z = .returned v' ∧ Hid (w'.ownsRow w.heap.size 5 1 v' n xs) ∧ Below w.heap.size w w' := by
  cases q with
  | none =>
    obtain rfl := h.nil rfl
    have HX : Hid (xs = []) := List.eq_nil_of_length_eq_zero (by omega)
    have hnl : ∀ w : World, (binOp .eql 80 (.slice none 0 cap) (.slice none 0 0)).run Tryz.prog w = .ok (.bool true) w := fun w => by kernel_rfl
    clear h
    go_enter Tryz.func36, Tryz.ntmps36
    go_wp2
    go_ret
    exact ⟨_, rfl, by rw [HX.out]; exact ⟨by simp, .inl ⟨rfl, rfl⟩⟩, Below.refl _ _⟩
  | some a =>
    obtain ⟨v', w', r1, r2, r3⟩ := run_clone (P := Tryz.prog) w 80 80 5 _ 1 1 Tryz.underlying80 infoC_Byte (by rfl) (by decide) (by decide) a n cap xs hx (fun h0 => by obtain ⟨g, o, e, r⟩ := h.at_ h0; cases e; exact ⟨g, o, rfl, r⟩) h1 hn
    have HR : Hid (w'.ownsRow w.heap.size 5 1 v' n xs ∧ Below w.heap.size w w') := ⟨r2, r3⟩
    obtain ⟨q2, c2, e2, -, -⟩ := own_slice r2
    subst e2
    have hnl : ∀ w : World, (binOp .eql 80 (.slice (some a) n cap) (.slice none 0 0)).run Tryz.prog w = .ok (.bool false) w := fun w => by kernel_rfl
    clear h r2 r3 hx h1 hn
    go_enter Tryz.func36, Tryz.ntmps36
    go_wp2_with (first
      | (at_builtin; refine wpList_apv (by rfl) _ _ 80 _ _ (by rfl) 80 (by rfl) (by rfl) (by rfl) r1 ?_)
      | fail)
    go_ret
    exact ⟨_, rfl, HR.out.1, HR.out.2⟩
theorem infoC_Value : (Tryz.prog.info? 52).map (fun i => (i.zero, i.size, i.bytes)) = some (some (.agg #[.int .i64 0, .int .i64 0, .string Hp.e0]), 3, 32) := by kernel_rfl
set_option maxRecDepth 100000 in
set_option maxHeartbeats 2000000 in
theorem cloneValue_any {w : World} {q : Option Addr} {n cap : Nat} {xs : List Value} (h : RdS w q n cap xs) (hx : xs.length = n * 3) (h1 : ∀ u ∈ xs, u.oneCell' = true) (hn : n ≤ 1000000000) :
    Calls Tryz.prog 55 #[.slice q n cap] w fun z w' => ∃ v', z = .returned v' ∧ Hid (w'.ownsRow w.heap.size 52 3 v' n xs) ∧ Below w.heap.size w w' := by
  cases q with
  | none =>
    obtain rfl := h.nil rfl
    have HX : Hid (xs = []) := List.eq_nil_of_length_eq_zero (by omega)
    have hnl : ∀ w : World, (binOp .eql 64 (.slice none 0 cap) (.slice none 0 0)).run Tryz.prog w = .ok (.bool true) w := fun w => by kernel_rfl
    clear h
    go_enter Tryz.func55, Tryz.ntmps55
    go_wp2
    go_ret
    exact ⟨_, rfl, by rw [HX.out]; exact ⟨by simp, .inl ⟨rfl, rfl⟩⟩, Below.refl _ _⟩
  | some a =>
    obtain ⟨v', w', r1, r2, r3⟩ := run_clone (P := Tryz.prog) w 64 64 52 _ 3 32 Tryz.underlying64 infoC_Value (by rfl) (by decide) (by decide) a n cap xs hx (fun h0 => by obtain ⟨g, o, e, r⟩ := h.at_ h0; cases e; exact ⟨g, o, rfl, r⟩) h1 hn
    have HR : Hid (w'.ownsRow w.heap.size 52 3 v' n xs ∧ Below w.heap.size w w') := ⟨r2, r3⟩
    obtain ⟨q2, c2, e2, -, -⟩ := own_slice r2
    subst e2
    have hnl : ∀ w : World, (binOp .eql 64 (.slice (some a) n cap) (.slice none 0 0)).run Tryz.prog w = .ok (.bool false) w := fun w => by kernel_rfl
    clear h r2 r3 hx h1 hn
    go_enter Tryz.func55, Tryz.ntmps55
    go_wp2_with (first
      | (at_builtin; refine wpList_apv (by rfl) _ _ 64 _ _ (by rfl) 64 (by rfl) (by rfl) (by rfl) r1 ?_)
      | fail)
    go_ret
    exact ⟨_, rfl, HR.out.1, HR.out.2⟩
end Go.Proofs.YtahdkffijlfmnaaGreatDoor

namespace Go.Proofs.YtahdkffijlfmnaaGreatDoor
open Go.RowKit
open Hp (V vc vcs)
theorem e0_ok (k n : Int) (hn : I64 n) : VOk (k, n, Hp.e0) := ⟨by show Hp.e0.size ≤ 256; decide, hn⟩
theorem i64_small {n : Int} (h0 : -1000000 ≤ n) (h1 : n ≤ 1000000) : I64 n := ⟨by omega, by omega⟩
theorem StOk.setF {K : Cg} {S : Ms} (h : StOk K S) (n : Nat) {f : Fr} (hf : FrOk K f) : StOk K (S.setF n f) where
  fr x hx := by
    rcases List.mem_or_eq_of_mem_set hx with r | r
    · exact h.fr x r
    · rw [r]; exact hf
  hp := h.hp
  rd := h.rd
  dp := by
    show ((S.fs.set n f).length : Int) ≤ K.dep
    rw [List.length_set]
    exact h.dp
  s0 := h.s0
  s1 := h.s1
theorem FrOk.st' {K : Cg} {f : Fr} (h : FrOk K f) {xs : List V} (hx : ∀ v ∈ xs, VOk v) (hl : xs.length ≤ 400) : FrOk K { f with st := xs } := ⟨h.fn, hx, h.sl, hl⟩
theorem FrOk.pc' {K : Cg} {f : Fr} (h : FrOk K f) (p : Int) : FrOk K { f with pc := p } := ⟨h.fn, h.st, h.sl, h.ln⟩
theorem FrOk.drop {K : Cg} {f : Fr} (h : FrOk K f) : FrOk K { f with st := f.st.dropLast } := h.st' (fun v hv => h.st v (drop_mem hv)) (by have := h.ln; rw [List.length_dropLast]; omega)
theorem push_ok {K : Cg} {S S' : Ms} {n : Nat} {f : Fr} {v : V} (h : StOk K S) (hf : FrOk K f) (hv : VOk v) (e : doPush S n f v = .ok S') : StOk K S' := by
  unfold doPush pushS at e
  split at e
  · cases e
  · rename_i hn
    cases e
    refine h.setF n (hf.st' (fun u hu => ?_) ?_)
    · rcases List.mem_append.1 hu with r | r
      · exact hf.st u r
      · rw [List.mem_singleton.1 r]; exact hv
    · have := hf.ln
      rw [List.length_append]
      simp only [List.length_cons, List.length_nil]
      omega
theorem pushOr_ok {K : Cg} {S S' : Ms} {n : Nat} {f : Fr} {r : V × Int} (h : StOk K S) (hf : FrOk K f) (hv : r.2 = 0 → VOk r.1) (e : doPushOr S n f r = .ok S') : StOk K S' := by
  unfold doPushOr at e
  split at e
  · rename_i h0
    exact push_ok h hf (hv h0) e
  · cases e
theorem plain_ok {R : Except Int Ms} {r : Ms × Yd} (h : plainYd R = .ok r) : R = .ok r.1 := by
  cases R with
  | error e => cases h
  | ok s => cases h; rfl
theorem i64_wrap (x : Int) : I64 (wrap64 x) := Hp.wrap_rng x
theorem bit_ok (b : Bool) : I64 (Hp.bit b) := by cases b <;> exact ⟨by decide, by decide⟩
theorem tru_ok (b : Bool) : VOk (vt (Hp.truS b)).1 := e0_ok 2 _ (bit_ok b)
theorem cmp_ok (op o : Int) : VOk (vt (Hp.cmpS op o)).1 := by
  unfold Hp.cmpS
  repeat' split
  all_goals first | exact tru_ok _ | exact e0_ok 0 0 (i64_small (by decide) (by decide))
theorem un_ok (op k n : Int) (s : ByteArray) : VOk (vt (Hp.unS op k n s)).1 := by
  unfold Hp.unS
  repeat' split
  · exact e0_ok 1 _ (i64_wrap _)
  · exact tru_ok _
  · exact e0_ok 0 0 (i64_small (by decide) (by decide))
theorem zero_ok (k : Int) : VOk (k, 0, Hp.e0) := e0_ok k 0 (i64_small (by decide) (by decide))
theorem tmod_rng {a b : Int} (hb : I64 b) (h0 : b ≠ 0) : I64 (a.tmod b) := by
  have h1 := Int.tmod_lt_of_pos a (b := b.natAbs) (by omega)
  have h2 : a.tmod b = a.tmod (b.natAbs : Int) := by
    rcases Int.natAbs_eq b with e | e
    · rw [← e]
    · conv => lhs; rw [e, Int.tmod_neg]
  have h3 : -(b.natAbs : Int) < a.tmod (b.natAbs : Int) := by
    have := Int.tmod_lt_of_pos (-a) (b := b.natAbs) (by omega)
    rw [Int.neg_tmod] at this
    omega
  have hb1 := hb.1
  have hb2 := hb.2
  rw [h2]
  exact ⟨by omega, by omega⟩
theorem bin_ok (op k n : Int) (s : ByteArray) (k' n' : Int) (s' : ByteArray) (h : I64 n') : VOk (vt (Hp.binS op k n s k' n' s')).1 := by
  unfold Hp.binS
  split
  · split
    · unfold Hp.intsS
      repeat' split
      all_goals first | exact e0_ok 1 _ (i64_wrap _) | exact zero_ok 0 | exact cmp_ok _ _ | (rename_i hb; exact e0_ok 1 _ (tmod_rng h hb))
    · split
      · unfold Hp.textsS
        split
        · split
          · exact zero_ok 0
          · rename_i hs
            refine ⟨?_, (zero_ok 0).2⟩
            show (s ++ s').size ≤ 256
            rw [ByteArray.size_append]
            omega
        · exact cmp_ok _ _
      · split
        · unfold Hp.namesS
          split
          · exact cmp_ok _ _
          · exact zero_ok 0
        · exact zero_ok 0
  · exact zero_ok 0
theorem at_ok (k n : Int) (s : ByteArray) (k' n' : Int) (s' : ByteArray) : VOk (vt (Hp.atS k n s k' n' s')).1 := by
  unfold Hp.atS
  split
  · split
    · exact zero_ok 0
    · refine e0_ok 1 _ ?_
      have := (s.data.toList.getD n'.toNat 0).toNat_lt
      show I64 ((s.data.toList.getD n'.toNat 0).toNat : Int)
      exact ⟨by omega, by omega⟩
  · exact zero_ok 0
theorem StOk.heap {K : Cg} {S : Ms} (h : StOk K S) {A : Hp.Hp} (hA : ∀ a ∈ A, ∀ v ∈ a.2, VOk v) : StOk K (S.heap A) := ⟨h.fr, hA, h.rd, h.dp, h.s0, h.s1⟩
theorem StOk.left {K : Cg} {S : Ms} (h : StOk K S) (n : Nat) : StOk K (S.left n) where
  fr x hx := h.fr x (List.mem_of_mem_take hx)
  hp := h.hp
  rd := h.rd
  dp := by
    show ((S.fs.take n).length : Int) ≤ K.dep
    have := h.dp
    rw [List.length_take]
    omega
  s0 := h.s0
  s1 := h.s1
theorem find_ok {A : Hp.Hp} (hA : ∀ a ∈ A, ∀ v ∈ a.2, VOk v) (v : V) : ∀ u ∈ (Hp.findH A v).1.2, VOk u := by
  unfold Hp.findH
  split
  · intro u hu; cases hu
  split
  · intro u hu; cases hu
  · intro u hu
    rw [List.getD_eq_getElem?_getD] at hu
    cases hg : A[v.2.1.toNat - 1]? with
    | none => rw [hg] at hu; cases hu
    | some x =>
      rw [hg] at hu
      exact hA x (List.mem_of_getElem? hg) u hu
theorem place_ok {A : Hp.Hp} (hA : ∀ a ∈ A, ∀ v ∈ a.2, VOk v) (v : V) (i : Int) : ∀ u ∈ (Hp.placeH A v i).1.2, VOk u := by
  unfold Hp.placeH
  split
  · intro u hu; cases hu
  · exact find_ok hA v
theorem get_ok {A : Hp.Hp} (hA : ∀ a ∈ A, ∀ v ∈ a.2, VOk v) (v : V) (i : Int) : VOk (Hp.getH A v i).1 := by
  unfold Hp.getH
  split
  · show VOk ((Hp.placeH A v i).1.2.getD i.toNat Hp.zv)
    rw [List.getD_eq_getElem?_getD]
    cases hg : (Hp.placeH A v i).1.2[i.toNat]? with
    | none => exact zero_ok 0
    | some x => exact place_ok hA v i x (List.mem_of_getElem? hg)
  · exact zero_ok 0
theorem put_ok {A : Hp.Hp} (hA : ∀ a ∈ A, ∀ v ∈ a.2, VOk v) (v : V) (i : Int) {x : V} (hx : VOk x) : ∀ a ∈ (Hp.putH A v i x).1, ∀ u ∈ a.2, VOk u := by
  unfold Hp.putH
  split
  · split
    · exact hA
    · intro a ha u hu
      obtain ⟨k, hk⟩ := List.mem_iff_getElem?.1 ha
      rw [List.getElem?_modify] at hk
      cases hg : A[k]? with
      | none => rw [hg] at hk; simp at hk
      | some y =>
        rw [hg] at hk
        have hy := hA y (List.mem_of_getElem? hg)
        have hk : some (if v.2.1.toNat - 1 = k then (y.1, y.2.set i.toNat x) else y) = some a := hk
        injection hk with hk
        subst hk
        split at hu
        · rcases List.mem_or_eq_of_mem_set hu with r | r
          · exact hy u r
          · rw [r]; exact hx
        · exact hy u hu
  · exact hA
theorem make_ok {A : Hp.Hp} (hA : ∀ a ∈ A, ∀ v ∈ a.2, VOk v) (lim : Nat) (kind n : Int) : (∀ a ∈ (Hp.makeH A lim kind n).1, ∀ u ∈ a.2, VOk u) ∧ (lim ≤ 100000 → VOk (Hp.makeH A lim kind n).2.1) := by
  unfold Hp.makeH
  split
  · exact ⟨hA, fun _ => zero_ok 0⟩
  split
  · exact ⟨hA, fun _ => zero_ok 0⟩
  split
  · exact ⟨hA, fun _ => zero_ok 0⟩
  · rename_i h1 h2 h3
    refine ⟨fun a ha u hu => ?_, fun hl => e0_ok 4 _ ?_⟩
    · rcases List.mem_append.1 ha with r | r
      · exact hA a r u hu
      · rw [List.mem_singleton.1 r] at hu
        rw [(List.mem_replicate.1 hu).2]
        exact zero_ok _
    · have := Hp.used_ge A
      show I64 ((A.length : Int) + 1)
      exact ⟨by omega, by omega⟩
theorem slots_len (so : List Int) (args : List V) (h : args.length ≤ so.length) : (slotsS so args).length = so.length := by
  unfold slotsS
  rw [List.length_append, List.length_map, List.length_drop]
  omega
theorem slots_ok {so : List Int} {args : List V} (h : ∀ v ∈ args, VOk v) : ∀ v ∈ slotsS so args, VOk v := fun v hv => by
  unfold slotsS at hv
  rcases List.mem_append.1 hv with r | r
  · exact h v r
  · obtain ⟨s, -, rfl⟩ := List.mem_map.1 r
    exact zero_ok _
theorem StOk.setF2 {K : Cg} {S : Ms} (h : StOk K S) (n : Nat) {f g : Fr} (hf : FrOk K f) (hg : FrOk K g) : StOk K ((S.setF n f).setF n g) := (h.setF n hf).setF n hg
theorem find_len {A : Hp.Hp} (hu : Hp.usedS A ≤ 100000) (v : V) : (Hp.findH A v).1.2.length ≤ 100000 := by
  unfold Hp.findH
  split
  · exact Nat.zero_le _
  split
  · exact Nat.zero_le _
  · show (A.getD (v.2.1.toNat - 1) (0, [])).2.length ≤ 100000
    rw [List.getD_eq_getElem?_getD]
    cases hg : A[v.2.1.toNat - 1]? with
    | none => exact Nat.zero_le _
    | some x =>
      have := Hp.used_mem (List.mem_of_getElem? hg)
      show x.2.length ≤ 100000
      omega
theorem op_ok {K : Cg} {S : Ms} {n : Nat} {f : Fr} {i : Nat} {hi : i < K.Es.length} {a b : Int} {o : Nat} {r : Ms × Yd} (hK : KOk K) (h : StOk K S) (hu : Hp.usedS S.hp ≤ 100000) (hf : FrOk K f) (hn : S.fs.length = n + 1) (hins : insS ((o : Int), a, b) = true) (e : opS K S n f i hi a b o = .ok r) : StOk K r.1 := by
  obtain ⟨S', y⟩ := r
  obtain ⟨-, h1, a0, a1, -, -⟩ := ins_rng hins
  rw [Int.toNat_natCast] at a0 a1
  have hlast : ∀ l : List V, (∀ v ∈ l, VOk v) → VOk (lastV l) := fun l hl => by
    rcases Nat.eq_zero_or_pos l.length with r | r
    · rw [List.eq_nil_of_length_eq_zero r]; exact zero_ok 0
    · exact hl _ (last_mem r)
  have hcut : StOk K (S.cut n f f.st.dropLast) := h.setF n hf.drop
  have hf2 : FrOk K { f with st := f.st.dropLast.dropLast ++ [lastV f.st.dropLast] } := hf.st' (fun v hv => by
    rcases List.mem_append.1 hv with r | r
    · exact hf.st v (drop_mem (drop_mem r))
    · rw [List.mem_singleton.1 r]; exact hlast _ fun u hu => hf.st u (drop_mem hu)) (by
    have := hf.ln
    simp only [List.length_append, List.length_dropLast, List.length_cons, List.length_nil]
    omega)
  have hf3 : FrOk K { f with st := f.st.dropLast.dropLast } := hf.drop.drop
  unfold opS at e
  split at e
  · exact push_ok h hf (e0_ok 1 a ⟨by simpa [opA, shLo] using a0, by simpa [opA, shHi] using a1⟩) (plain_ok e)
  · exact push_ok h hf (e0_ok 2 a ⟨by have : (0 : Int) ≤ a := by simpa [opA, shLo] using a0
                                      omega, by have : a ≤ 1 := by simpa [opA, shHi] using a1
                                                omega⟩) (plain_ok e)
  · have e := plain_ok e
    unfold doTextS at e
    split at e
    · refine push_ok h hf ⟨?_, i64_small (by show (-1000000 : Int) ≤ 0; decide) (by show (0 : Int) ≤ 1000000; decide)⟩ e
      have := hK.c.ts _ (List.getElem_mem (by assumption))
      show (K.c.txs[a.toNat]).size ≤ 256
      omega
    · cases e
  · have e := plain_ok e
    unfold doLoadS at e
    split at e
    · exact push_ok h hf (hf.sl _ (List.getElem_mem _)) e
    · cases e
  · have e := plain_ok e
    unfold doStoreS at e
    split at e
    · cases e
      refine hcut.setF n ⟨?_, hf.drop.st, fun v hv => ?_, hf.drop.ln⟩
      · obtain ⟨j, j1, j2, j3⟩ := hf.fn
        refine ⟨j, j1, j2, ?_⟩
        show (f.sl.set a.toNat (lastV f.st)).length = _
        rw [List.length_set]
        exact j3
      · rcases List.mem_or_eq_of_mem_set hv with r | r
        · exact hf.sl v r
        · rw [r]; exact hlast _ hf.st
    · cases e
  · cases e; exact hcut
  · exact pushOr_ok hcut hf.drop (fun _ => un_ok _ _ _ _) (plain_ok e)
  · exact pushOr_ok (h.setF2 n hf2 hf3) hf3 (fun _ => bin_ok _ _ _ _ _ _ _ (hlast _ hf.st).2) (plain_ok e)
  · have e := plain_ok e
    unfold doJumpS at e
    split at e
    · cases e; exact h.setF n (hf.pc' _)
    · cases e
  · have e := plain_ok e
    unfold doFalseS doJumpS at e
    split at e
    · split at e
      · split at e
        · cases e; exact hcut.setF n (hf.drop.pc' _)
        · cases e
      · cases e; exact hcut
    · cases e
  · have e := plain_ok e
    unfold doCallS at e
    split at e
    · rename_i hal
      split at e
      · cases e
      · rename_i hpl
        split at e
        · cases e
        · split at e
          · cases e
          · rename_i hd
            cases e
            have hp := hK.ps _ (List.getElem_mem hal)
            have hdl : (f.st.drop (f.st.length - K.Es[a.toNat].1.params.toNat)).length = K.Es[a.toNat].1.params.toNat := by rw [List.length_drop]; omega
            have hc1 : StOk K (S.cut n f (f.st.take (f.st.length - K.Es[a.toNat].1.params.toNat))) := h.setF n (hf.st' (fun v hv => hf.st v (List.mem_of_mem_take hv)) (by have := hf.ln; rw [List.length_take]; omega))
            refine ⟨fun x hx => ?_, hc1.hp, hc1.rd, ?_, hc1.s0, hc1.s1⟩
            · rcases List.mem_append.1 hx with r | r
              · exact hc1.fr x r
              · rw [List.mem_singleton.1 r]
                refine ⟨⟨a.toNat, rfl, hal, slots_len _ _ (by rw [hdl]; omega)⟩, fun v hv => (by cases hv), slots_ok fun v hv => hf.st v (List.mem_of_mem_drop hv), by simp⟩
            · show (((S.fs.set n _) ++ [_]).length : Int) ≤ K.dep
              have := h.dp
              rw [List.length_append, List.length_set, hn]
              simp only [List.length_cons, List.length_nil]
              omega
    · cases e
  · have e := plain_ok e
    unfold doRetS at e
    split at e
    · cases e
    · split at e
      · cases e
      · rename_i fb hfb
        split at e
        · cases e
        · rename_i h4
          cases e
          have hb := h.fr fb (List.mem_of_getElem? hfb)
          refine (hcut.setF (n - 1) (hb.st' (fun v hv => ?_) ?_)).left n
          · rcases List.mem_append.1 hv with r | r
            · exact hb.st v r
            · rw [List.mem_singleton.1 r]; exact hlast _ hf.st
          · have := hb.ln
            rw [List.length_append]
            simp only [List.length_cons, List.length_nil]
            omega
  · have e := plain_ok e
    unfold doDoneS at e
    have hl := h.left n
    split at e
    · injection e with e
      rw [← e]
      split
      · exact ⟨hl.fr, hl.hp, hl.rd, hl.dp, hl.s0, hl.s1⟩
      · exact hl
    · cases e
  · have e := plain_ok e
    unfold doNewS at e
    split at e
    · obtain ⟨m1, m2⟩ := make_ok h.hp K.lim (kindS a) (lastV f.st).2.1
      exact pushOr_ok (hcut.heap m1) hf.drop (fun _ => m2 hK.lim) e
    · cases e
  · have e := plain_ok e
    unfold doGetS at e
    split at e
    · exact pushOr_ok (h.setF2 n hf2 hf3) hf3 (fun _ => at_ok _ _ _ _ _ _) e
    · split at e
      · exact pushOr_ok (h.setF2 n hf2 hf3) hf3 (fun _ => get_ok h.hp _ _) e
      · cases e
  · have e := plain_ok e
    unfold doPutS at e
    split at e
    · split at e
      · cases e
        refine StOk.heap ?_ (put_ok h.hp _ _ (hlast _ hf.st))
        refine ((h.setF n ?_).setF n ?_).setF n ?_
        · refine hf.st' (fun v hv => ?_) ?_
          · rcases List.mem_append.1 hv with r | r
            · rcases List.mem_append.1 r with r | r
              · exact hf.st v (drop_mem (drop_mem (drop_mem r)))
              · rw [List.mem_singleton.1 r]; exact hlast _ fun u hu => hf.st u (drop_mem (drop_mem hu))
            · rw [List.mem_singleton.1 r]; exact hlast _ fun u hu => hf.st u (drop_mem hu)
          · have := hf.ln
            simp only [List.length_append, List.length_dropLast, List.length_cons, List.length_nil]
            omega
        · refine hf.st' (fun v hv => ?_) ?_
          · rcases List.mem_append.1 hv with r | r
            · exact hf.st v (drop_mem (drop_mem (drop_mem r)))
            · rw [List.mem_singleton.1 r]; exact hlast _ fun u hu => hf.st u (drop_mem (drop_mem hu))
          · have := hf.ln
            simp only [List.length_append, List.length_dropLast, List.length_cons, List.length_nil]
            omega
        · exact hf.st' (fun v hv => hf.st v (drop_mem (drop_mem (drop_mem hv)))) (by have := hf.ln; simp only [List.length_dropLast]; omega)
      · cases e
    · cases e
  · have e := plain_ok e
    unfold doLenS at e
    split at e
    · refine push_ok hcut hf.drop (e0_ok 1 _ ?_) e
      have := (hlast _ hf.st).1
      exact ⟨by omega, by omega⟩
    · refine pushOr_ok hcut hf.drop (fun _ => e0_ok 1 _ ?_) e
      have := find_len hu (lastV f.st)
      exact ⟨by omega, by omega⟩
  · have e := plain_ok e
    unfold doStrS at e
    split at e
    · exact push_ok hcut hf.drop ⟨strS_size _ (hlast _ hf.st).1 (hlast _ hf.st).2, i64_small (by show (-1000000 : Int) ≤ 0; decide) (by show (0 : Int) ≤ 1000000; decide)⟩ e
    · cases e
  · have e := plain_ok e
    unfold doPrintS at e
    split at e
    · cases e
    · split at e
      · cases e
      · cases e
        have hc1 : StOk K (S.cut n f (f.st.take (f.st.length - a.toNat))) := h.setF n (hf.st' (fun v hv => hf.st v (List.mem_of_mem_take hv)) (by have := hf.ln; rw [List.length_take]; omega))
        exact ⟨hc1.fr, hc1.hp, hc1.rd, hc1.dp, hc1.s0, hc1.s1⟩
  · have e := plain_ok e
    unfold doReadS at e
    split at e
    · rename_i hr
      cases hp : doPush S n f (1, K.inp[S.rd], Hp.e0) with
      | error q => rw [hp] at e; cases e
      | ok q =>
        rw [hp] at e
        cases e
        have := push_ok h hf (e0_ok 1 _ (hK.i64 _ (List.getElem_mem hr))) hp
        exact ⟨this.fr, this.hp, hr, this.dp, this.s0, this.s1⟩
    · cases e
  · cases e; exact h
  · split at e
    · cases e; exact h
    · cases e
  · cases e; exact h
  · cases e; exact h
end Go.Proofs.YtahdkffijlfmnaaGreatDoor

namespace Go.Proofs.YtahdkffijlfmnaaGreatDoor
open Go.RowKit
open Hp (V vc vcs)
theorem push_out {S S' : Ms} {n : Nat} {f : Fr} {v : V} (e : doPush S n f v = .ok S') : S'.out = S.out := by
  unfold doPush pushS at e
  split at e
  · cases e
  · cases e; rfl
theorem pushOr_out {S S' : Ms} {n : Nat} {f : Fr} {r : V × Int} (e : doPushOr S n f r = .ok S') : S'.out = S.out := by
  unfold doPushOr at e
  split at e
  · exact push_out e
  · cases e
theorem op_out {K : Cg} {S : Ms} {n : Nat} {f : Fr} {i : Nat} {hi : i < K.Es.length} {a b : Int} {o : Nat} {r : Ms × Yd} (hf : FrOk K f) (hins : insS ((o : Int), a, b) = true) (e : opS K S n f i hi a b o = .ok r) : ∃ l, r.1.out = S.out ++ l ∧ l.length ≤ 4200 := by
  obtain ⟨S', y⟩ := r
  obtain ⟨-, h1, a0, a1, -, -⟩ := ins_rng hins
  rw [Int.toNat_natCast] at a0 a1
  have same : ∀ {T : Ms}, T.out = S.out → S'.out = T.out → ∃ l, S'.out = S.out ++ l ∧ l.length ≤ 4200 := fun h1 h2 => ⟨[], by rw [List.append_nil, h2, h1], by simp⟩
  unfold opS at e
  split at e
  · exact same rfl (push_out (plain_ok e))
  · exact same rfl (push_out (plain_ok e))
  · have e := plain_ok e
    unfold doTextS at e
    split at e
    · exact same rfl (push_out e)
    · cases e
  · have e := plain_ok e
    unfold doLoadS at e
    split at e
    · exact same rfl (push_out e)
    · cases e
  · have e := plain_ok e
    unfold doStoreS at e
    split at e
    · cases e; exact same rfl rfl
    · cases e
  · cases e; exact same (T := S) rfl rfl
  · exact same (T := S.cut n f f.st.dropLast) rfl (pushOr_out (plain_ok e))
  · exact same (T := (S.cut n f (f.st.dropLast.dropLast ++ [lastV f.st.dropLast])).cut n { f with st := f.st.dropLast.dropLast ++ [lastV f.st.dropLast] } f.st.dropLast.dropLast) rfl (pushOr_out (plain_ok e))
  · have e := plain_ok e
    unfold doJumpS at e
    split at e
    · cases e; exact same (T := S) rfl rfl
    · cases e
  · have e := plain_ok e
    unfold doFalseS doJumpS at e
    split at e
    · split at e
      · split at e
        · cases e; exact same (T := S) rfl rfl
        · cases e
      · cases e; exact same (T := S) rfl rfl
    · cases e
  · have e := plain_ok e
    unfold doCallS at e
    split at e
    · split at e
      · cases e
      · split at e
        · cases e
        · split at e
          · cases e
          · cases e; exact same (T := S) rfl rfl
    · cases e
  · have e := plain_ok e
    unfold doRetS at e
    split at e
    · cases e
    · split at e
      · cases e
      · split at e
        · cases e
        · cases e; exact same (T := S) rfl rfl
  · have e := plain_ok e
    unfold doDoneS at e
    split at e
    · injection e with e
      have e : _ = S' := e
      rw [← e]
      split
      · exact ⟨[], by rw [List.append_nil]; rfl, by simp⟩
      · exact ⟨[], by rw [List.append_nil]; rfl, by simp⟩
    · cases e
  · have e := plain_ok e
    unfold doNewS at e
    split at e
    · exact same (T := (S.cut n f f.st.dropLast).heap (Hp.makeH S.hp K.lim (kindS a) (lastV f.st).2.1).1) rfl (pushOr_out e)
    · cases e
  · have e := plain_ok e
    unfold doGetS at e
    split at e
    · exact same (T := (S.cut n f (f.st.dropLast.dropLast ++ [lastV f.st.dropLast])).cut n { f with st := f.st.dropLast.dropLast ++ [lastV f.st.dropLast] } f.st.dropLast.dropLast) rfl (pushOr_out e)
    · split at e
      · exact same (T := (S.cut n f (f.st.dropLast.dropLast ++ [lastV f.st.dropLast])).cut n { f with st := f.st.dropLast.dropLast ++ [lastV f.st.dropLast] } f.st.dropLast.dropLast) rfl (pushOr_out e)
      · cases e
  · have e := plain_ok e
    unfold doPutS at e
    split at e
    · split at e
      · cases e; exact same (T := S) rfl rfl
      · cases e
    · cases e
  · have e := plain_ok e
    unfold doLenS at e
    split at e
    · exact same (T := S.cut n f f.st.dropLast) rfl (push_out e)
    · exact same (T := S.cut n f f.st.dropLast) rfl (pushOr_out e)
  · have e := plain_ok e
    unfold doStrS at e
    split at e
    · exact same (T := S.cut n f f.st.dropLast) rfl (push_out e)
    · cases e
  · have e := plain_ok e
    unfold doPrintS at e
    split at e
    · cases e
    · split at e
      · cases e
      · cases e
        have ha : a ≤ 16 := by simpa [opA, shHi] using a1
        refine ⟨_, rfl, ?_⟩
        have := prL_len (f.st.drop (f.st.length - a.toNat)) 0 fun v hv => hf.st v (List.mem_of_mem_drop hv)
        rw [List.length_drop] at this
        rw [List.length_append]
        simp only [List.length_cons, List.length_nil]
        omega
  · have e := plain_ok e
    unfold doReadS at e
    split at e
    · cases hp : doPush S n f (1, K.inp[S.rd], Hp.e0) with
      | error q => rw [hp] at e; cases e
      | ok q =>
        rw [hp] at e
        cases e
        exact ⟨[], by rw [List.append_nil]; have := push_out hp; exact this, by simp⟩
    · cases e
  · cases e; exact same (T := S) rfl rfl
  · split at e
    · cases e; exact same (T := S) rfl rfl
    · cases e
  · cases e; exact same (T := S) rfl rfl
  · cases e; exact same (T := S) rfl rfl
theorem next_of {K : Cg} {S : Ms} {r : Ms × Yd} (hK : KOk K) (h : StOk K S) (e : mnextS K S = .ok r) : ∃ (f : Fr) (hi : f.fn.toNat < K.Es.length) (a b : Int) (o : Nat), f ∈ S.fs ∧ FrOk K f ∧ insS ((o : Int), a, b) = true ∧ S.fs.length = (S.fs.length - 1) + 1 ∧ opS K (S.jump (S.fs.length - 1) f (f.pc + 1)) (S.fs.length - 1) { f with pc := f.pc + 1 } f.fn.toNat hi a b o = .ok r := by
  unfold mnextS at e
  split at e
  · cases e
  · rename_i f hl
    have hm : f ∈ S.fs := List.mem_of_getLast? hl
    split at e
    · rename_i hi
      split at e
      · rename_i hp
        split at e
        · cases e
        · obtain ⟨p, h1, h2⟩ := hK.rng _ hi hp
          have hgd : K.c.ins.getD f.pc.toNat (0, 0, 0) = K.c.ins[p] := by rw [h1, Int.toNat_natCast, List.getD_eq_getElem?_getD, List.getElem?_eq_getElem h2]; rfl
          have hins := hK.c.is _ (List.getElem_mem h2)
          rw [hgd] at e
          obtain ⟨h0, -⟩ := ins_rng (op := K.c.ins[p].1) (a := K.c.ins[p].2.1) (b := K.c.ins[p].2.2) hins
          refine ⟨f, hi, _, _, _, hm, h.fr f hm, ?_, ?_, e⟩
          · rw [Int.toNat_of_nonneg h0]; exact hins
          · have := List.length_pos_of_mem hm
            omega
      · cases e
    · cases e
theorem next_ok {K : Cg} {S : Ms} {r : Ms × Yd} (hK : KOk K) (h : StOk K S) (hu : Hp.usedS S.hp ≤ 100000) (e : mnextS K S = .ok r) : StOk K r.1 := by
  obtain ⟨f, hi, a, b, o, hm, hf, hins, hl, e⟩ := next_of hK h e
  refine op_ok hK (h.setF _ (hf.pc' _)) hu (hf.pc' _) ?_ hins e
  show (S.fs.set _ _).length = _
  rw [List.length_set]
  exact hl
theorem next_out {K : Cg} {S : Ms} {r : Ms × Yd} (hK : KOk K) (h : StOk K S) (e : mnextS K S = .ok r) : ∃ l, r.1.out = S.out ++ l ∧ l.length ≤ 4200 := by
  obtain ⟨f, hi, a, b, o, -, hf, hins, -, e⟩ := next_of hK h e
  obtain ⟨l, l1, l2⟩ := op_out (S := S.jump (S.fs.length - 1) f (f.pc + 1)) (hf.pc' _) hins e
  exact ⟨l, l1, l2⟩
theorem step_ok {K : Cg} {S : Ms} (hK : KOk K) (h : StOk K S) (hu : Hp.usedS S.hp ≤ 100000) : StOk K (mstepS K S).1 ∧ ∃ l, (mstepS K S).1.out = S.out ++ l ∧ l.length ≤ 4200 := by
  have h0 := h.s0
  have h1 := h.s1
  have hs : StOk K { S with steps := min (S.steps + 1) 4611686018427387904 } := ⟨h.fr, h.hp, h.rd, h.dp, by show 0 ≤ min (S.steps + 1) 4611686018427387904; omega, by show min (S.steps + 1) 4611686018427387904 ≤ _; omega⟩
  unfold mstepS
  split
  · cases e : mnextS K { S with steps := min (S.steps + 1) 4611686018427387904 } with
    | error t => exact ⟨⟨hs.fr, hs.hp, hs.rd, hs.dp, hs.s0, hs.s1⟩, [], by rw [List.append_nil], by simp⟩
    | ok r =>
      obtain ⟨l, l1, l2⟩ := next_out hK hs e
      exact ⟨next_ok hK hs hu e, l, l1, l2⟩
  · exact ⟨h, [], by rw [List.append_nil], by simp⟩
theorem MachM.used {w : World} {g : Nat} {K : Cg} {S : Ms} {L : List Fm} {fv ov : Value} {F Q : Nat → Prop} (h : MachM w g K S L fv ov F Q) : Hp.usedS S.hp ≤ 100000 := by
  obtain ⟨As, rq, rn, rg, ro, av, e, hh⟩ := h.heap
  rw [← e]
  exact Nat.le_trans hh.le hh.top
end Go.Proofs.YtahdkffijlfmnaaGreatDoor

namespace Go.Proofs.YtahdkffijlfmnaaGreatDoor
open Go.RowKit
open Hp (V vc vcs vcs_get vcs_len)
theorem own_sets_same {w : World} {B : Nat} {e : TypeId} {sz g n cap : Nat} {xs : List Value} (h : w.ownsRow B e sz (.slice (some ⟨g, 0, none⟩) n cap) n xs) (j : Nat) (vs : List Value) (hle : j + vs.length ≤ n * sz) (hv : ∀ i v, vs[i]? = some v → xs[j + i]? = some v) : (w.setCells g j vs).ownsRow B e sz (.slice (some ⟨g, 0, none⟩) n cap) n xs := by
  have hx : xs.length = n * sz := h.1
  have hth : w.there g j vs.length := (own_blk h g rfl).there j vs.length hle
  have r2 := World.rangeAt_setCells_same w g j vs hth
  refine own_sets h j vs xs hx fun i hi => ?_
  by_cases hin : j ≤ i ∧ i < j + vs.length
  · have hl : i - j < vs.length := by omega
    have q := List.getElem?_eq_getElem hl
    have e1 := r2 (i - j) _ q
    have e2 := hv (i - j) _ q
    rw [show j + (i - j) = i by omega] at e1 e2
    rw [e1, e2]
  · rw [World.cell?_setCells_out _ _ _ _ _ (fun _ _ => by show i < j ∨ j + vs.length ≤ i; omega)]
    exact h.cellAt i hi
theorem vcs_at3 (l : List V) (i : Nat) (hi : i < l.length) : ∀ j v, (vc l[i])[j]? = some v → (vcs l)[i * 3 + j]? = some v := fun j v hv => by
  have hj : j < 3 := (List.getElem?_eq_some_iff.1 hv).1
  have := flat_at vc 3 (fun _ => rfl) l i j hi hj
  exact this.trans hv
theorem vcs_one (l : List V) : ∀ u ∈ vcs l, u.oneCell' = true := fun u hu => by
  obtain ⟨x, -, hx⟩ := List.mem_flatMap.1 hu
  unfold vc at hx
  simp only [List.mem_cons, List.not_mem_nil, or_false] at hx
  rcases hx with rfl | rfl | rfl <;> rfl
set_option maxRecDepth 100000 in
set_option maxHeartbeats 2000000 in
theorem copiedValues_any {w : World} {q : Option Addr} {cap : Nat} {l : List V} (h : RdS w q l.length cap (vcs l)) (hv : ∀ v ∈ l, v.2.2.size ≤ 256) (hn : l.length ≤ 1000000) :
    Calls Tryz.prog 34 #[.slice q l.length cap] w fun z w' => ∃ v', z = .returned v' ∧ Hid (w'.ownsRow w.heap.size 52 3 v' l.length (vcs l)) ∧ Below w.heap.size w w' := by
  have hcl := cloneValue_any h (vcs_len l) (vcs_one l) (by omega)
  have HH : Hid (RdS w q l.length cap (vcs l)) := h
  clear h
  obtain ⟨N, hN⟩ : ∃ N, l.length = N := ⟨_, rfl⟩
  rw [hN] at hcl ⊢
  go_enter Tryz.func34, Tryz.ntmps34
  go_wp2_with (first
    | (go_at_call 55; refine hcl.mono ?_; rintro z1 w1 ⟨v1, rfl, ho1, hb1⟩)
    | fail)
  have HB1 : Hid (Below w.heap.size w w1) := hb1
  clear hb1
  obtain ⟨q1, c1, rfl, -, hq1⟩ := own_slice ho1.out
  clear hcl
  go_loopw [10] (fun v wr => ∃ j : Nat, j ≤ N ∧ v = .int .i64 (j : Int) ∧ Hid (wr.ownsRow w.heap.size 52 3 (.slice q1 N c1) N (vcs l) ∧ Below w.heap.size w wr)) (fun v _ => N - (intOf v).toNat)
  case atStart => exact ⟨0, Nat.zero_le _, rfl, ho1.out, HB1.out⟩
  case round =>
    obtain ⟨j, hj, rfl, hI⟩ := hrel
    by_cases hlt : j < N
    case neg =>
      obtain rfl : j = N := by omega
      go_wp2
      go_ret
      exact ⟨_, rfl, hI.out.1, hI.out.2⟩
    obtain ⟨tg, rfl, -⟩ := hq1 (by omega)
    have hjl : j < l.length := by omega
    obtain ⟨fg, fo, hq, hrng⟩ := HH.out.at_ (by omega)
    have hfl : fg < w.heap.size := block_lt_of_cell (hrng 0 (.int .i64 l[0].1) ((flat_at vc 3 (fun _ => rfl) l 0 0 (by omega) (by decide)).trans rfl))
    have er := vcs_get (range_same hrng (hI.out.2.block fg hfl)) j hjl
    have hvs := vcs_at3 l j hjl
    have hv := hv l[j] (List.getElem_mem hjl)
    generalize l[j] = y at hv er hvs
    obtain ⟨vk, vn, vs⟩ := y
    simp only at hv
    have a0 : wr.cell? ⟨fg, fo + j * 3, none⟩ = some (.int .i64 vk) := er 0 _ rfl
    have a1 : wr.cell? ⟨fg, fo + j * 3 + 1, none⟩ = some (.int .i64 vn) := er 1 _ rfl
    have a2 : wr.cell? ⟨fg, fo + j * 3 + 2, none⟩ = some (.string vs) := er 2 _ rfl
    have j0 : (0 : Int) ≤ (j : Int) := by omega
    have j1 : (j : Int) < (N : Int) := by omega
    subst hq
    obtain ⟨⟨⟨p0, -⟩, ⟨p1, -⟩⟩, p2, -⟩ := Box3.new wr vk vn vs 52
    have nb : Below wr.heap.size wr (wr.alloc (.cells #[.int .i64 vk, .int .i64 vn, .string vs] 52)) := (Below.refl _ wr).alloc (Nat.le_refl _) _
    have hcp := mcopied_any vk vn vs (wr.alloc (.cells #[.int .i64 vk, .int .i64 vn, .string vs] 52)) (by omega)
    have HST : Hid (∀ W, Below wr.heap.size wr W → W.there tg (j * 3) 3 ∧ ((W.setCells tg (j * 3) (vc (vk, vn, vs))).ownsRow w.heap.size 52 3 (.slice (some ⟨tg, 0, none⟩) N c1) N (vcs l) ∧ Below w.heap.size w (W.setCells tg (j * 3) (vc (vk, vn, vs))))) := fun W hW => by
      have ho := own_next hI.out.1 hW
      have hth := (own_blk ho tg rfl).there (j * 3) 3 (by omega)
      refine ⟨hth, own_sets_same ho (j * 3) _ (by show j * 3 + 3 ≤ N * 3; omega) hvs, ?_⟩
      exact (below2 hI.out.2 hW).trans (Kp.below (F := fun b => b = tg) (Kp.setCells (F := fun b => b = tg) (.inl rfl) _ _ (Kp.refl _ _)) (fun b hb => by have hb : b = tg := hb; have := own_ge hI.out.1 tg rfl; omega) (Nat.le_trans hI.out.2.size hW.size))
    clear er hvs hI
    have H1 : Hid ((#[.int .i64 vk, .int .i64 vn, .string vs] : Array Value).all (·.oneCell') = true) := Hp.one3 _ _ _
    go_wp2_with (first
      | (go_at_call 56; refine hcp.mono ?_; rintro e w3 ⟨rfl, hb3⟩; obtain ⟨hth3, hF3⟩ := HST.out w3 (below2 nb hb3); have HTH3 : Hid (w3.there tg (j * 3) (#[.int .i64 vk, .int .i64 vn, .string vs] : Array Value).size) := hth3; clear hth3)
      | (refine wpList_store_mid (by rfl) 52 (.tmp 19) (.tmp 18) (by rfl) tg (j * 3) #[.int .i64 vk, .int .i64 vn, .string vs] (by rfl) (by rfl) HTH3.out Hp.size37 H1.out ?_)
      | go_in)
    exact ⟨⟨j + 1, by omega, by go_num, hF3⟩, by simp [intOf]; omega⟩
end Go.Proofs.YtahdkffijlfmnaaGreatDoor

namespace Go.Proofs.YtahdkffijlfmnaaGreatDoor
open Go.RowKit
open Hp (V vc vcs)
end Go.Proofs.YtahdkffijlfmnaaGreatDoor

namespace Go.Proofs.YtahdkffijlfmnaaGreatDoor
open Go.RowKit
open Hp (V vc vcs)
end Go.Proofs.YtahdkffijlfmnaaGreatDoor

namespace Go.Proofs.YtahdkffijlfmnaaGreatDoor
open Go.RowKit
open Hp (V vc vcs)
def Tr7 (t : Int) : Prop := 1 ≤ t ∧ t ≤ 7
def Tr0 (t : Int) : Prop := 0 ≤ t ∧ t ≤ 7
theorem t0 : Tr0 0 := ⟨by decide, by decide⟩
theorem t1 : Tr0 1 := ⟨by decide, by decide⟩
theorem t2 : Tr0 2 := ⟨by decide, by decide⟩
theorem t4 : Tr0 4 := ⟨by decide, by decide⟩
theorem t6 : Tr0 6 := ⟨by decide, by decide⟩
theorem t7 : Tr0 7 := ⟨by decide, by decide⟩
theorem trP {t : Int} (h : Tr0 t) (h0 : t ≠ 0) : Tr7 t := ⟨by have := h.1; omega, h.2⟩
theorem tr7 {t : Int} (a : t = 7) : Tr7 t := by subst a; exact ⟨by decide, by decide⟩
theorem trOr {T : Ms} {m : Nat} {f : Fr} {r : V × Int} {t : Int} (hr : Tr0 r.2) (h : doPushOr T m f r = .error t) : Tr7 t := by
  unfold doPushOr at h
  split at h
  · exact tr7 (push_err h)
  · rename_i h0; cases h; exact trP hr h0
theorem cmp_tr (op o : Int) : Tr0 (Hp.cmpS op o).2.2.2 := by
  unfold Hp.cmpS
  repeat' split
  all_goals first | exact t0 | exact t1 | exact t2 | exact t4 | exact t6 | exact t7
theorem un_tr (op k n : Int) (s : ByteArray) : Tr0 (vt (Hp.unS op k n s)).2 := by
  unfold Hp.unS
  repeat' split
  all_goals first | exact t0 | exact t1 | exact t2 | exact t4 | exact t6 | exact t7
theorem bin_tr (op k n : Int) (s : ByteArray) (k' n' : Int) (s' : ByteArray) : Tr0 (vt (Hp.binS op k n s k' n' s')).2 := by
  unfold Hp.binS Hp.intsS Hp.textsS Hp.namesS
  repeat' split
  all_goals first | exact cmp_tr _ _ | exact t0 | exact t1 | exact t2 | exact t4 | exact t6 | exact t7
theorem at_tr (k n : Int) (s : ByteArray) (k' n' : Int) (s' : ByteArray) : Tr0 (vt (Hp.atS k n s k' n' s')).2 := by
  unfold Hp.atS
  repeat' split
  all_goals first | exact t0 | exact t1 | exact t2 | exact t4 | exact t6 | exact t7
theorem make_tr (A : Hp.Hp) (lim : Nat) (kind n : Int) : Tr0 (Hp.makeH A lim kind n).2.2 := by
  unfold Hp.makeH
  repeat' split
  all_goals first | exact t0 | exact t1 | exact t2 | exact t4 | exact t6 | exact t7
theorem findH_tr (A : Hp.Hp) (v : V) : Tr0 (Hp.findH A v).2 := by
  unfold Hp.findH
  repeat' split
  all_goals first | exact t0 | exact t1 | exact t2 | exact t4 | exact t6 | exact t7
theorem find_tr (A : Hp.Hp) (v x : V) : Tr0 ((x, (Hp.findH A v).2) : V × Int).2 := findH_tr A v
theorem place_tr (A : Hp.Hp) (v : V) (i : Int) : Tr0 (Hp.placeH A v i).2 := by
  unfold Hp.placeH
  split
  · first | exact t0 | exact t1 | exact t2 | exact t4 | exact t6 | exact t7
  · exact findH_tr A v
theorem get_tr (A : Hp.Hp) (v : V) (i : Int) : Tr0 (Hp.getH A v i).2 := by
  unfold Hp.getH
  split
  · first | exact t0 | exact t1 | exact t2 | exact t4 | exact t6 | exact t7
  · exact place_tr A v i
theorem put_tr (A : Hp.Hp) (v : V) (i : Int) (x : V) : Tr0 (Hp.putH A v i x).2 := by
  unfold Hp.putH
  split
  · split
    · first | exact t0 | exact t1 | exact t2 | exact t4 | exact t6 | exact t7
    · first | exact t0 | exact t1 | exact t2 | exact t4 | exact t6 | exact t7
  · exact place_tr A v i
theorem op_tr {K : Cg} {S : Ms} {n : Nat} {f : Fr} {i : Nat} {hi : i < K.Es.length} {a b : Int} {o : Nat} {t : Int} (h : opS K S n f i hi a b o = .error t) : Tr7 t := by
  unfold opS at h
  split at h
  · exact tr7 (push_err (plain_err h))
  · exact tr7 (push_err (plain_err h))
  · have h := plain_err h
    unfold doTextS at h
    split at h
    · exact tr7 (push_err h)
    · cases h; exact ⟨by decide, by decide⟩
  · have h := plain_err h
    unfold doLoadS at h
    split at h
    · exact tr7 (push_err h)
    · cases h; exact ⟨by decide, by decide⟩
  · have h := plain_err h
    unfold doStoreS at h
    split at h
    · cases h
    · cases h; exact ⟨by decide, by decide⟩
  · cases h
  · exact trOr (un_tr ..) (plain_err h)
  · exact trOr (bin_tr ..) (plain_err h)
  · have h := plain_err h
    unfold doJumpS at h
    split at h
    · cases h
    · cases h; exact ⟨by decide, by decide⟩
  · have h := plain_err h
    unfold doFalseS doJumpS at h
    split at h
    · split at h
      · split at h
        · cases h
        · cases h; exact ⟨by decide, by decide⟩
      · cases h
    · cases h; exact ⟨by decide, by decide⟩
  · have h := plain_err h
    unfold doCallS at h
    split at h
    · split at h
      · cases h; exact ⟨by decide, by decide⟩
      · split at h
        · cases h; exact ⟨by decide, by decide⟩
        · split at h
          · cases h; exact ⟨by decide, by decide⟩
          · cases h
    · cases h; exact ⟨by decide, by decide⟩
  · have h := plain_err h
    unfold doRetS at h
    split at h
    · cases h; exact ⟨by decide, by decide⟩
    · split at h
      · cases h; exact ⟨by decide, by decide⟩
      · split at h
        · cases h; exact ⟨by decide, by decide⟩
        · cases h
  · have h := plain_err h
    unfold doDoneS at h
    split at h
    · cases h
    · cases h; exact ⟨by decide, by decide⟩
  · have h := plain_err h
    unfold doNewS at h
    split at h
    · exact trOr (make_tr ..) h
    · cases h; exact ⟨by decide, by decide⟩
  · have h := plain_err h
    unfold doGetS at h
    split at h
    · exact trOr (at_tr ..) h
    · split at h
      · exact trOr (get_tr ..) h
      · cases h; exact ⟨by decide, by decide⟩
  · have h := plain_err h
    unfold doPutS at h
    split at h
    · split at h
      · cases h
      · rename_i h0
        cases h
        exact trP (put_tr ..) h0
    · cases h; exact ⟨by decide, by decide⟩
  · have h := plain_err h
    unfold doLenS at h
    split at h
    · exact tr7 (push_err h)
    · exact trOr (find_tr ..) h
  · have h := plain_err h
    unfold doStrS at h
    split at h
    · exact tr7 (push_err h)
    · cases h; exact ⟨by decide, by decide⟩
  · have h := plain_err h
    unfold doPrintS at h
    split at h
    · cases h; exact ⟨by decide, by decide⟩
    · split at h
      · cases h; exact ⟨by decide, by decide⟩
      · cases h
  · have h := plain_err h
    unfold doReadS at h
    split at h
    · cases hp : doPush S n f (1, K.inp[S.rd], Hp.e0) with
      | error e =>
        rw [hp] at h
        cases h
        exact tr7 (push_err hp)
      | ok r => rw [hp] at h; cases h
    · cases h; exact ⟨by decide, by decide⟩
  · cases h
  · split at h
    · cases h
    · cases h; exact ⟨by decide, by decide⟩
  · cases h
  · cases h
theorem next_tr {K : Cg} {S : Ms} {t : Int} (h : mnextS K S = .error t) : Tr7 t := by
  unfold mnextS at h
  split at h
  · cases h; exact tr7 rfl
  · split at h
    · split at h
      · split at h
        · cases h; exact tr7 rfl
        · exact op_tr h
      · cases h; exact tr7 rfl
    · cases h; exact tr7 rfl
end Go.Proofs.YtahdkffijlfmnaaGreatDoor
