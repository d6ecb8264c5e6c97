import Derived.Test.YtekgnogjfggnmaaDoorKw
import Derived.Test.YtekgnogjfggnmaaDoorTreeMath
import Derived.BigGuard
import Derived.Lib.Strings
import Derived.Deep.Cut
import Derived.BigCall
namespace Go.Proofs.YtekgnogjfggnmaaDoor
open Go.RowKit

def letterB (c : UInt8) : Bool := (decide (97 ≤ (c.toNat : Int)) && decide ((c.toNat : Int) ≤ 122)) || (decide (65 ≤ (c.toNat : Int)) && decide ((c.toNat : Int) ≤ 90))
def digitB (c : UInt8) : Bool := decide (48 ≤ (c.toNat : Int)) && decide ((c.toNat : Int) ≤ 57)
def innerB (c : UInt8) : Bool := letterB c || digitB c || ((c.toNat : Int) == 95)

/-- A name, of a text that is not empty. -/
def nameS (t : ByteArray) : Bool := decide (t.size ≤ 24) && letterB (t.data.toList.getD 0 0) && !kw t && t.data.toList.all innerB

def bracB (t : ByteArray) : Bool := decide (2 ≤ t.size) && (t.data.toList.getD 0 0 == 91) && (t.data.toList.getD (t.size - 1) 0 == 93)
def baseB (t : ByteArray) : Bool := t.toList == [105, 110, 116] || t.toList == [98, 111, 111, 108] || t.toList == [116, 101, 120, 116]
def typF : Nat → ByteArray → Bool
  | 0, t => baseB t
  | f + 1, t => if bracB t then typF f (t.extract 1 (t.size - 1)) else baseB t
def typeS (t : ByteArray) : Bool := typF 4 t

theorem isLetter_any (c : UInt8) (w : World) : Calls Tryd.prog 82 #[.int .u8 (c.toNat : Int)] w fun e w' => e = .returned (.bool (letterB c)) ∧ w = w' := by
  have hc := UInt8.toNat_lt c
  unfold letterB
  go_enter Tryd.func82, Tryd.ntmps82
  go_wp2
  all_goals go_ret
  all_goals (refine ⟨?_, rfl⟩; simp_all; try omega)

theorem isExpression_any (k : Int) (w : World) : Calls Tryd.prog 67 #[.int .i64 k] w fun e w' => e = .returned (.bool (isExpr k)) ∧ w = w' := by
  unfold isExpr
  go_enter Tryd.func67, Tryd.ntmps67
  go_wp2
  all_goals go_ret
  all_goals (refine ⟨?_, rfl⟩; simp_all; try omega)

theorem isStatement_any (k : Int) (w : World) : Calls Tryd.prog 84 #[.int .i64 k] w fun e w' => e = .returned (.bool (isStmt k)) ∧ w = w' := by
  unfold isStmt
  go_enter Tryd.func84, Tryd.ntmps84
  go_wp2
  all_goals go_ret
  all_goals (refine ⟨?_, rfl⟩; simp_all; try omega)

theorem isRoot_any (k : Int) (w : World) : Calls Tryd.prog 48 #[.int .i64 k] w fun e w' => e = .returned (.bool (k == 1 || isExpr k)) ∧ w = w' := by
  go_enter Tryd.func48, Tryd.ntmps48
  go_wp2_with (first
    | (go_at_call 67; refine (isExpression_any k _).mono ?_; rintro e w1 ⟨rfl, rfl⟩)
    | go_in)
  all_goals go_ret
  all_goals (refine ⟨?_, rfl⟩; simp_all)

theorem byte_at (t : ByteArray) (j : Nat) (h : j < t.size) : t.data.toList.getD j 0 = t[j]'h := by
  have h' : j < t.data.toList.length := by rw [← Lib.size_eq]; exact h
  rw [List.getD_eq_getElem?_getD, List.getElem?_eq_getElem h', Array.getElem_toList]
  rfl

theorem inner_not (c : UInt8) (h1 : letterB c = false) : innerB c = (!((decide ((c.toNat : Int) < 48) || decide ((57 : Int) < (c.toNat : Int))) && ((c.toNat : Int) != 95))) := by
  unfold innerB digitB
  rw [h1]
  generalize (c.toNat : Int) = n
  have e1 : decide (48 ≤ n) = !decide (n < 48) := by by_cases a : n < 48 <;> simp [a] <;> omega
  have e2 : decide (n ≤ 57) = !decide (57 < n) := by by_cases a : 57 < n <;> simp [a] <;> omega
  rw [e1, e2]
  unfold bne
  cases decide (n < 48) <;> cases decide (57 < n) <;> cases (n == 95) <;> rfl

set_option maxRecDepth 100000 in
set_option maxHeartbeats 1000000 in
theorem isName_any (t : ByteArray) (w : World) (h0 : 0 < t.size) (hr : Hid (w.rangeAt 3 0 kwCells)) (hs : t.size ≤ 140737488355328) :
    Calls Tryd.prog 69 #[.string t] w fun e w' => e = .returned (.bool (nameS t)) ∧ w' = w := by
  obtain ⟨c, hc⟩ : ∃ c, t[0]'h0 = c := ⟨_, rfl⟩
  have HC : Hid (t.data.toList.getD 0 0 = c) := (byte_at t 0 h0).trans hc
  obtain ⟨q, hq⟩ : ∃ q, kw t = q := ⟨_, rfl⟩
  have HQ : Hid (kw t = q) := hq
  have HK : Hid (Calls Tryd.prog 83 #[.string t] w fun e w' => e = .returned (.bool q) ∧ w = w') := by
    have := keyword_r t w hr.out
    rw [hq] at this
    exact this.mono fun e w' h => ⟨h.1, h.2.symm⟩
  clear hq
  obtain ⟨b, hb⟩ : ∃ b, nameS t = b := ⟨_, rfl⟩
  have HB : Hid (nameS t = b) := hb
  rw [hb]
  clear hb
  have HL : Hid (∀ (c : UInt8) (w : World), Calls Tryd.prog 82 #[.int .u8 (c.toNat : Int)] w fun e w' => e = .returned (.bool (letterB c)) ∧ w = w') := isLetter_any
  obtain ⟨lc, hlc⟩ : ∃ lc, letterB c = lc := ⟨_, rfl⟩
  have HLC : Hid (letterB c = lc) := hlc
  have HL0 : Hid (Calls Tryd.prog 82 #[.int .u8 (c.toNat : Int)] w fun e w' => e = .returned (.bool lc) ∧ w = w') := by
    have := isLetter_any c w
    rw [hlc] at this
    exact this
  clear hlc
  by_cases hbad : (24 : Int) < (t.size : Int) ∨ lc = false ∨ q = true
  · have HF : Hid (b = false) := by
      show b = false
      rw [← HB.out]
      unfold nameS
      rw [HC.out, HLC.out, HQ.out]
      rcases hbad with h | h | h
      · have : ¬ t.size ≤ 24 := by omega
        simp [this]
      · simp [h]
      · simp [h]
    go_enter Tryd.func69, Tryd.ntmps69
    go_upto_region 2 with (first
      | (go_at_call 82; refine HL0.out.mono ?_; rintro e w1 ⟨rfl, hw1⟩; subst hw1)
      | (go_at_call 83; refine HK.out.mono ?_; rintro e w1 ⟨rfl, hw1⟩; subst hw1)
      | go_in)
    all_goals go_wp2
    all_goals first
      | (rw [HF.out]; go_ret; exact ⟨rfl, rfl⟩)
      | (exfalso; rcases hbad with h | h | h <;> simp_all <;> omega)
  · have hsz : ¬ (24 : Int) < (t.size : Int) := fun h => hbad (.inl h)
    obtain rfl : lc = true := by cases lc <;> simp_all
    obtain rfl : q = false := by cases q <;> simp_all
    clear hbad
    have HN : Hid (b = t.data.toList.all innerB) := by
      show _ = _
      rw [← HB.out]
      unfold nameS
      rw [HC.out, HLC.out, HQ.out]
      have : t.size ≤ 24 := by omega
      simp [this]
    clear HB HQ
    go_enter Tryd.func69, Tryd.ntmps69
    go_upto_region 3 with (first
      | (go_at_call 82; refine HL0.out.mono ?_; rintro e w1 ⟨rfl, hw1⟩; subst hw1)
      | (go_at_call 83; refine HK.out.mono ?_; rintro e w1 ⟨rfl, hw1⟩; subst hw1)
      | go_in)
    clear HL0 HK HC HLC hc
    go_wp2
    go_loop [20] (fun i => ∃ k : Nat, k ≤ t.size ∧ i = .int .i64 (k : Int) ∧ Hid (∀ j, j < k → innerB (t.data.toList.getD j 0) = true)) (fun i => t.size - (intOf i).toNat)
    case atStart => exact ⟨0, by omega, rfl, fun j hj => by omega⟩
    case round =>
      obtain ⟨k, hk, rfl, hn⟩ := hrel
      by_cases hlt : k < t.size
      · obtain ⟨d, hd⟩ : ∃ d, t[k]'hlt = d := ⟨_, rfl⟩
        have HD : Hid (t.data.toList.getD k 0 = d) := (byte_at t k hlt).trans hd
        have hd8 := UInt8.toNat_lt d
        cases hld : letterB d with
        | true =>
          have HL1 : Hid (Calls Tryd.prog 82 #[.int .u8 (d.toNat : Int)] w fun e w' => e = .returned (.bool true) ∧ w = w') := by
            have := HL.out d w
            rw [hld] at this
            exact this
          have hin : innerB d = true := by unfold innerB; rw [hld]; rfl
          have HIN : Hid (innerB d = true) := hin
          clear hin hld
          go_wp2_with (first
            | (go_at_call 82; refine HL1.out.mono ?_; rintro e w1 ⟨rfl, hw1⟩; subst hw1)
            | go_in)
          refine ⟨⟨k + 1, by omega, by go_num, fun j hj => ?_⟩, by simp [intOf]; omega⟩
          by_cases hjk : j < k
          · exact hn.out j hjk
          · obtain rfl : j = k := by omega
            rw [HD.out]
            exact HIN.out
        | false =>
          have HL1 : Hid (Calls Tryd.prog 82 #[.int .u8 (d.toNat : Int)] w fun e w' => e = .returned (.bool false) ∧ w = w') := by
            have := HL.out d w
            rw [hld] at this
            exact this
          have hin := inner_not d hld
          have HF : Hid (((d.toNat : Int) < 48 ∨ 57 < (d.toNat : Int)) ∧ (d.toNat : Int) ≠ 95 → innerB d = false) := fun h => by
            rw [hin]
            have h1 : (decide ((d.toNat : Int) < 48) || decide ((57 : Int) < (d.toNat : Int))) = true := by simpa using h.1
            have h2 : ((d.toNat : Int) != 95) = true := by simpa using h.2
            rw [h1, h2]
            rfl
          have HT : Hid (¬ (((d.toNat : Int) < 48 ∨ 57 < (d.toNat : Int)) ∧ (d.toNat : Int) ≠ 95) → innerB d = true) := fun h => by
            rw [hin]
            by_cases q : (d.toNat : Int) = 95
            · simp [q]
            · have : ¬ ((d.toNat : Int) < 48 ∨ 57 < (d.toNat : Int)) := fun z => h ⟨z, q⟩
              simp [not_or.1 this]
          clear hin hld
          have bad : innerB d = false → b = false := fun h => by
            rw [HN.out, List.all_eq_false]
            have h' : k < t.data.toList.length := by rw [← Lib.size_eq]; exact hlt
            refine ⟨t.data.toList[k]'h', List.getElem_mem _, ?_⟩
            have := HD.out
            rw [List.getD_eq_getElem?_getD, List.getElem?_eq_getElem h'] at this
            simp only [Option.getD_some] at this
            rw [this, h]
            simp
          have BAD : Hid (innerB d = false → b = false) := bad
          clear bad
          go_wp2_with (first
            | (go_at_call 82; refine HL1.out.mono ?_; rintro e w1 ⟨rfl, hw1⟩; subst hw1)
            | go_in)
          all_goals first
            | (have h9 : innerB d = false := HF.out (by (try simp only [bne_iff_ne, ne_eq, bne_eq_false_iff_eq] at *); omega)
               rw [BAD.out h9]
               go_ret
               exact ⟨rfl, rfl⟩)
            | (have h9 : innerB d = true := HT.out (by (try simp only [ne_eq, bne_eq_false_iff_eq] at *); omega)
               refine ⟨⟨k + 1, by omega, by go_num, fun j hj => ?_⟩, by simp [intOf]; omega⟩
               by_cases hjk : j < k
               · exact hn.out j hjk
               · obtain rfl : j = k := by omega
                 rw [HD.out]
                 exact h9)
      · obtain rfl : k = t.size := by omega
        have HT : Hid (b = true) := by
          show b = true
          rw [HN.out, List.all_eq_true]
          intro x hx
          obtain ⟨j, hj, rfl⟩ := List.getElem_of_mem hx
          have := hn.out j (by rw [Lib.size_eq]; exact hj)
          rw [List.getD_eq_getElem?_getD, List.getElem?_eq_getElem hj] at this
          exact this
        clear hn HN
        go_wp2
        rw [HT.out]
        go_ret
        exact ⟨rfl, rfl⟩

end Go.Proofs.YtekgnogjfggnmaaDoor
