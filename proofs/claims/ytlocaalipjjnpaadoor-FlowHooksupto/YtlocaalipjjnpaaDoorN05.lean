import Derived.BigGuard
import Derived.Lib.Strings
import Derived.Deep.Cut
import Derived.BigCall
import Derived.Test.YtlocaalipjjnpaaDoorN04
import Derived.Test.YtlocaalipjjnpaaDoorN00
import Derived.Test.YtlocaalipjjnpaaDoorN03
namespace Go.Proofs.YtlocaalipjjnpaaDoor
open Go.RowKit

def letterB (c : UInt8) : Bool := (decide (97 ≤ (c.toNat : Int)) && decide ((c.toNat : Int) ≤ 122)) || (decide (65 ≤ (c.toNat : Int)) && decide ((c.toNat : Int) ≤ 90))
def digitB (c : UInt8) : Bool := decide (48 ≤ (c.toNat : Int)) && decide ((c.toNat : Int) ≤ 57)
def innerB (c : UInt8) : Bool := letterB c || digitB c || ((c.toNat : Int) == 95)

/-- A name, of a text that is not empty. -/
def nameS (t : ByteArray) : Bool := decide (t.size ≤ 24) && letterB (t.data.toList.getD 0 0) && !kw t && t.data.toList.all innerB

def bracB (t : ByteArray) : Bool := decide (2 ≤ t.size) && (t.data.toList.getD 0 0 == 91) && (t.data.toList.getD (t.size - 1) 0 == 93)
def baseB (t : ByteArray) : Bool := t.toList == [105, 110, 116] || t.toList == [98, 111, 111, 108] || t.toList == [116, 101, 120, 116]
def typF : Nat → ByteArray → Bool
  | 0, t => baseB t
  | f + 1, t => if bracB t then typF f (t.extract 1 (t.size - 1)) else baseB t
def typeS (t : ByteArray) : Bool := typF 4 t

theorem isLetter_any (c : UInt8) (w : World) : Calls Tryd.prog 90 #[.int .u8 (c.toNat : Int)] w fun e w' => e = .returned (.bool (letterB c)) ∧ w = w' := by
  have hc := UInt8.toNat_lt c
  unfold letterB
  go_enter Tryd.func90, Tryd.ntmps90
  go_wp2
  all_goals go_ret
  all_goals (refine ⟨?_, rfl⟩; simp_all; try omega)

theorem isExpression_any (k : Int) (w : World) : Calls Tryd.prog 83 #[.int .i64 k] w fun e w' => e = .returned (.bool (isExpr k)) ∧ w = w' := by
  unfold isExpr
  go_enter Tryd.func83, Tryd.ntmps83
  go_wp2
  all_goals go_ret
  all_goals (refine ⟨?_, rfl⟩; simp_all; try omega)

theorem isStatement_any (k : Int) (w : World) : Calls Tryd.prog 93 #[.int .i64 k] w fun e w' => e = .returned (.bool (isStmt k)) ∧ w = w' := by
  unfold isStmt
  go_enter Tryd.func93, Tryd.ntmps93
  go_wp2
  all_goals go_ret
  all_goals (refine ⟨?_, rfl⟩; simp_all; try omega)

theorem isRoot_any (k : Int) (w : World) : Calls Tryd.prog 73 #[.int .i64 k] w fun e w' => e = .returned (.bool (k == 1 || isExpr k)) ∧ w = w' := by
  go_enter Tryd.func73, Tryd.ntmps73
  go_wp2_with (first
    | (go_at_call 83; refine (isExpression_any k _).mono ?_; rintro e w1 ⟨rfl, rfl⟩)
    | go_in)
  all_goals go_ret
  all_goals (refine ⟨?_, rfl⟩; simp_all)

theorem byte_at (t : ByteArray) (j : Nat) (h : j < t.size) : t.data.toList.getD j 0 = t[j]'h := by
  have h' : j < t.data.toList.length := by rw [← Lib.size_eq]; exact h
  rw [List.getD_eq_getElem?_getD, List.getElem?_eq_getElem h', Array.getElem_toList]
  rfl

theorem inner_not (c : UInt8) (h1 : letterB c = false) : innerB c = (!((decide ((c.toNat : Int) < 48) || decide ((57 : Int) < (c.toNat : Int))) && ((c.toNat : Int) != 95))) := by
  unfold innerB digitB
  rw [h1]
  generalize (c.toNat : Int) = n
  have e1 : decide (48 ≤ n) = !decide (n < 48) := by by_cases a : n < 48 <;> simp [a] <;> omega
  have e2 : decide (n ≤ 57) = !decide (57 < n) := by by_cases a : 57 < n <;> simp [a] <;> omega
  rw [e1, e2]
  unfold bne
  cases decide (n < 48) <;> cases decide (57 < n) <;> cases (n == 95) <;> rfl

set_option maxRecDepth 100000 in
set_option maxHeartbeats 1000000 in
theorem isName_any (t : ByteArray) (w : World) (h0 : 0 < t.size) (hr : Hid (w.rangeAt 1 0 kwCells)) (hs : t.size ≤ 140737488355328) :
    Calls Tryd.prog 85 #[.string t] w fun e w' => e = .returned (.bool (nameS t)) ∧ w' = w := by
  obtain ⟨c, hc⟩ : ∃ c, t[0]'h0 = c := ⟨_, rfl⟩
  have HC : Hid (t.data.toList.getD 0 0 = c) := (byte_at t 0 h0).trans hc
  obtain ⟨q, hq⟩ : ∃ q, kw t = q := ⟨_, rfl⟩
  have HQ : Hid (kw t = q) := hq
  have HK : Hid (Calls Tryd.prog 91 #[.string t] w fun e w' => e = .returned (.bool q) ∧ w = w') := by
    have := keyword_r t w hr.out
    rw [hq] at this
    exact this.mono fun e w' h => ⟨h.1, h.2.symm⟩
  clear hq
  obtain ⟨b, hb⟩ : ∃ b, nameS t = b := ⟨_, rfl⟩
  have HB : Hid (nameS t = b) := hb
  rw [hb]
  clear hb
  have HL : Hid (∀ (c : UInt8) (w : World), Calls Tryd.prog 90 #[.int .u8 (c.toNat : Int)] w fun e w' => e = .returned (.bool (letterB c)) ∧ w = w') := isLetter_any
  obtain ⟨lc, hlc⟩ : ∃ lc, letterB c = lc := ⟨_, rfl⟩
  have HLC : Hid (letterB c = lc) := hlc
  have HL0 : Hid (Calls Tryd.prog 90 #[.int .u8 (c.toNat : Int)] w fun e w' => e = .returned (.bool lc) ∧ w = w') := by
    have := isLetter_any c w
    rw [hlc] at this
    exact this
  clear hlc
  by_cases hbad : (24 : Int) < (t.size : Int) ∨ lc = false ∨ q = true
  · have HF : Hid (b = false) := by
      show b = false
      rw [← HB.out]
      unfold nameS
      rw [HC.out, HLC.out, HQ.out]
      rcases hbad with h | h | h
      · have : ¬ t.size ≤ 24 := by omega
        simp [this]
      · simp [h]
      · simp [h]
    go_enter Tryd.func85, Tryd.ntmps85
    go_upto_region 2 with (first
      | (go_at_call 90; refine HL0.out.mono ?_; rintro e w1 ⟨rfl, hw1⟩; subst hw1)
      | (go_at_call 91; refine HK.out.mono ?_; rintro e w1 ⟨rfl, hw1⟩; subst hw1)
      | go_in)
    all_goals go_wp2
    all_goals first
      | (rw [HF.out]; go_ret; exact ⟨rfl, rfl⟩)
      | (exfalso; rcases hbad with h | h | h <;> simp_all <;> omega)
  · have hsz : ¬ (24 : Int) < (t.size : Int) := fun h => hbad (.inl h)
    obtain rfl : lc = true := by cases lc <;> simp_all
    obtain rfl : q = false := by cases q <;> simp_all
    clear hbad
    have HN : Hid (b = t.data.toList.all innerB) := by
      show _ = _
      rw [← HB.out]
      unfold nameS
      rw [HC.out, HLC.out, HQ.out]
      have : t.size ≤ 24 := by omega
      simp [this]
    clear HB HQ
    go_enter Tryd.func85, Tryd.ntmps85
    go_upto_region 3 with (first
      | (go_at_call 90; refine HL0.out.mono ?_; rintro e w1 ⟨rfl, hw1⟩; subst hw1)
      | (go_at_call 91; refine HK.out.mono ?_; rintro e w1 ⟨rfl, hw1⟩; subst hw1)
      | go_in)
    clear HL0 HK HC HLC hc
    go_wp2
    go_loop [20] (fun i => ∃ k : Nat, k ≤ t.size ∧ i = .int .i64 (k : Int) ∧ Hid (∀ j, j < k → innerB (t.data.toList.getD j 0) = true)) (fun i => t.size - (intOf i).toNat)
    case atStart => exact ⟨0, by omega, rfl, fun j hj => by omega⟩
    case round =>
      obtain ⟨k, hk, rfl, hn⟩ := hrel
      by_cases hlt : k < t.size
      · obtain ⟨d, hd⟩ : ∃ d, t[k]'hlt = d := ⟨_, rfl⟩
        have HD : Hid (t.data.toList.getD k 0 = d) := (byte_at t k hlt).trans hd
        have hd8 := UInt8.toNat_lt d
        cases hld : letterB d with
        | true =>
          have HL1 : Hid (Calls Tryd.prog 90 #[.int .u8 (d.toNat : Int)] w fun e w' => e = .returned (.bool true) ∧ w = w') := by
            have := HL.out d w
            rw [hld] at this
            exact this
          have hin : innerB d = true := by unfold innerB; rw [hld]; rfl
          have HIN : Hid (innerB d = true) := hin
          clear hin hld
          go_wp2_with (first
            | (go_at_call 90; refine HL1.out.mono ?_; rintro e w1 ⟨rfl, hw1⟩; subst hw1)
            | go_in)
          refine ⟨⟨k + 1, by omega, by go_num, fun j hj => ?_⟩, by simp [intOf]; omega⟩
          by_cases hjk : j < k
          · exact hn.out j hjk
          · obtain rfl : j = k := by omega
            rw [HD.out]
            exact HIN.out
        | false =>
          have HL1 : Hid (Calls Tryd.prog 90 #[.int .u8 (d.toNat : Int)] w fun e w' => e = .returned (.bool false) ∧ w = w') := by
            have := HL.out d w
            rw [hld] at this
            exact this
          have hin := inner_not d hld
          have HF : Hid (((d.toNat : Int) < 48 ∨ 57 < (d.toNat : Int)) ∧ (d.toNat : Int) ≠ 95 → innerB d = false) := fun h => by
            rw [hin]
            have h1 : (decide ((d.toNat : Int) < 48) || decide ((57 : Int) < (d.toNat : Int))) = true := by simpa using h.1
            have h2 : ((d.toNat : Int) != 95) = true := by simpa using h.2
            rw [h1, h2]
            rfl
          have HT : Hid (¬ (((d.toNat : Int) < 48 ∨ 57 < (d.toNat : Int)) ∧ (d.toNat : Int) ≠ 95) → innerB d = true) := fun h => by
            rw [hin]
            by_cases q : (d.toNat : Int) = 95
            · simp [q]
            · have : ¬ ((d.toNat : Int) < 48 ∨ 57 < (d.toNat : Int)) := fun z => h ⟨z, q⟩
              simp [not_or.1 this]
          clear hin hld
          have bad : innerB d = false → b = false := fun h => by
            rw [HN.out, List.all_eq_false]
            have h' : k < t.data.toList.length := by rw [← Lib.size_eq]; exact hlt
            refine ⟨t.data.toList[k]'h', List.getElem_mem _, ?_⟩
            have := HD.out
            rw [List.getD_eq_getElem?_getD, List.getElem?_eq_getElem h'] at this
            simp only [Option.getD_some] at this
            rw [this, h]
            simp
          have BAD : Hid (innerB d = false → b = false) := bad
          clear bad
          go_wp2_with (first
            | (go_at_call 90; refine HL1.out.mono ?_; rintro e w1 ⟨rfl, hw1⟩; subst hw1)
            | go_in)
          all_goals first
            | (have h9 : innerB d = false := HF.out (by (try simp only [bne_iff_ne, ne_eq, bne_eq_false_iff_eq] at *); omega)
               rw [BAD.out h9]
               go_ret
               exact ⟨rfl, rfl⟩)
            | (have h9 : innerB d = true := HT.out (by (try simp only [ne_eq, bne_eq_false_iff_eq] at *); omega)
               refine ⟨⟨k + 1, by omega, by go_num, fun j hj => ?_⟩, by simp [intOf]; omega⟩
               by_cases hjk : j < k
               · exact hn.out j hjk
               · obtain rfl : j = k := by omega
                 rw [HD.out]
                 exact h9)
      · obtain rfl : k = t.size := by omega
        have HT : Hid (b = true) := by
          show b = true
          rw [HN.out, List.all_eq_true]
          intro x hx
          obtain ⟨j, hj, rfl⟩ := List.getElem_of_mem hx
          have := hn.out j (by rw [Lib.size_eq]; exact hj)
          rw [List.getD_eq_getElem?_getD, List.getElem?_eq_getElem hj] at this
          exact this
        clear hn HN
        go_wp2
        rw [HT.out]
        go_ret
        exact ⟨rfl, rfl⟩

end Go.Proofs.YtlocaalipjjnpaaDoor

namespace Go.Proofs.YtlocaalipjjnpaaDoor
open Go.RowKit

theorem typ_go (f : Nat) (t : ByteArray) (h : bracB t = true) : typF (f + 1) t = typF f (t.extract 1 (t.size - 1)) := by unfold typF; rw [if_pos h]; cases f <;> rfl
theorem typ_stop (f : Nat) (t : ByteArray) (h : bracB t = false) : typF f t = baseB t := by
  cases f with
  | zero => rfl
  | succ f => unfold typF; rw [if_neg (by simp [h])]

set_option maxRecDepth 100000 in
set_option maxHeartbeats 1000000 in
theorem isType_any (t0 : ByteArray) (w : World) (hs : t0.size ≤ 140737488355328) :
    Calls Tryd.prog 86 #[.string t0] w fun e w' => e = .returned (.bool (typeS t0)) ∧ w = w' := by
  obtain ⟨b, hb⟩ : ∃ b, typeS t0 = b := ⟨_, rfl⟩
  have HB : Hid (typF 4 t0 = b) := hb
  rw [hb]
  clear hb
  go_enter Tryd.func86, Tryd.ntmps86
  go_wp2
  go_loop [0, 3] (fun v i => ∃ (t : ByteArray) (k : Nat), k ≤ 4 ∧ v = .string t ∧ i = .int .i64 (k : Int) ∧ t.size ≤ t0.size ∧ Hid (typF (4 - k) t = b)) (fun _ i => 4 - (intOf i).toNat)
  case atStart => exact ⟨t0, 0, by omega, rfl, rfl, Nat.le_refl _, HB⟩
  case round =>
    obtain ⟨t, k, hk, rfl, rfl, hts, ht⟩ := hrel
    clear HB
    have HE : Hid (baseB t = b → ∀ z : Bool, z = (baseB t) → z = b) := fun h z hz => hz.trans h
    by_cases hlt : k < 4
    · cases hbr : bracB t with
      | true =>
        have h2 := hbr
        unfold bracB at h2
        simp only [Bool.and_eq_true, decide_eq_true_eq, beq_iff_eq] at h2
        obtain ⟨⟨z2, z0⟩, z1⟩ := h2
        rw [byte_at t 0 (by omega)] at z0
        rw [byte_at t (t.size - 1) (by omega)] at z1
        have y0 : ((t[0]'(by omega)).toNat : Int) = 91 := by rw [z0]; rfl
        have y1 : ((t[t.size - 1]'(by omega)).toNat : Int) = 93 := by rw [z1]; rfl
        have e1 : ((t.size : Int) - 1) = ((t.size - 1 : Nat) : Int) := by omega
        have e2 : ((t.size : Int) - 1).toNat = t.size - 1 := by omega
        have hst := typ_go (3 - k) t hbr
        rw [show 3 - k + 1 = 4 - k by omega] at hst
        have HT : Hid (typF (4 - (k + 1)) (t.extract 1 (t.size - 1)) = b) := by
          rw [show 4 - (k + 1) = 3 - k by omega]
          exact hst.symm.trans ht.out
        have hz : (t.extract 1 (t.size - 1)).size ≤ t0.size := by simp; omega
        have q1 : (1 : Int) ≤ ((t.size - 1 : Nat) : Int) := by omega
        have q2 : ((t.size - 1 : Nat) : Int) ≤ (t.size : Int) := by omega
        clear hst ht hbr z0 z1
        go_wp2
        exact ⟨⟨t.extract 1 (t.size - 1), k + 1, by omega, rfl, by go_num, hz, HT⟩, by simp [intOf]; omega⟩
      | false =>
        have hbase : baseB t = b := by rw [← typ_stop (4 - k) t hbr]; exact ht.out
        have HBS : Hid (baseB t = b) := hbase
        clear ht
        have hc : t.size < 2 ∨ (∃ h : 2 ≤ t.size, ((t[0]'(by omega)).toNat : Int) ≠ 91) ∨ (∃ h : 2 ≤ t.size, ((t[0]'(by omega)).toNat : Int) = 91 ∧ ((t[t.size - 1]'(by omega)).toNat : Int) ≠ 93) := by
          by_cases z2 : t.size < 2
          · exact .inl z2
          · unfold bracB at hbr
            rw [byte_at t 0 (by omega), byte_at t (t.size - 1) (by omega)] at hbr
            by_cases z0 : ((t[0]'(by omega)).toNat : Int) = 91
            · refine .inr (.inr ⟨by omega, z0, fun z1 => ?_⟩)
              have y0 : t[0]'(by omega) = 91 := UInt8.toNat_inj.1 (by have : (91 : UInt8).toNat = 91 := rfl; omega)
              have y1 : t[t.size - 1]'(by omega) = 93 := UInt8.toNat_inj.1 (by have : (93 : UInt8).toNat = 93 := rfl; omega)
              have y2 : 2 ≤ t.size := by omega
              rw [y0, y1] at hbr
              simp [y2] at hbr
            · exact .inr (.inl ⟨by omega, z0⟩)
        clear hbr hbase
        rcases hc with hc | ⟨h2, hc⟩ | ⟨h2, y0, hc⟩
        · go_wp2
          all_goals first
            | (rw [← HBS.out]
               go_ret
               refine ⟨?_, rfl⟩
               unfold baseB
               simp [*]
               done)
            | (exfalso; simp_all)
        · go_wp2
          all_goals first
            | (rw [← HBS.out]
               go_ret
               refine ⟨?_, rfl⟩
               unfold baseB
               simp [*]
               done)
            | (exfalso; simp_all)
        · have e1 : ((t.size : Int) - 1) = ((t.size - 1 : Nat) : Int) := by omega
          have e2 : ((t.size : Int) - 1).toNat = t.size - 1 := by omega
          go_wp2
          all_goals first
            | (rw [← HBS.out]
               go_ret
               refine ⟨?_, rfl⟩
               unfold baseB
               simp [*]
               done)
            | (exfalso; simp_all)
    · obtain rfl : k = 4 := by omega
      have HBS : Hid (baseB t = b) := ht
      clear ht
      go_wp2
      all_goals first
        | (rw [← HBS.out]
           go_ret
           refine ⟨?_, rfl⟩
           unfold baseB
           simp [*]
           done)
        | (exfalso; simp_all)
end Go.Proofs.YtlocaalipjjnpaaDoor

namespace Go.Proofs.YtlocaalipjjnpaaDoor
open Go.RowKit

theorem empty_iff (t : ByteArray) : t.toList.isEmpty = decide (t.size = 0) := by
  rw [toL, Lib.size_eq]
  cases t.data.toList <;> simp

set_option maxHeartbeats 1000000 in
/-- A field: of a text that is filled 'good' answers. -/
theorem fits_any (k : Int) (t : ByteArray) (g : Nat) (good : ByteArray → Bool) (w : World) (hg : g = 85 ∨ g = 86)
    (hq : 0 < t.size → Hid (Calls Tryd.prog g #[.string t] w fun e w' => e = .returned (.bool (good t)) ∧ w = w')) :
    Calls Tryd.prog 84 #[.int .i64 k, .string t, .func (.func g) #[] #[]] w fun e w' => e = .returned (.bool (fitsS k t good)) ∧ w = w' := by
  obtain ⟨b, hb⟩ : ∃ b, fitsS k t good = b := ⟨_, rfl⟩
  have HB : Hid (fitsS k t good = b) := hb
  rw [hb]
  clear hb
  have he := empty_iff t
  by_cases hz : t.size = 0
  · have HB2 : Hid (b = (k != 2)) := by
      show _ = _
      rw [← HB.out]
      unfold fitsS
      rw [if_pos hz]
    rw [decide_eq_true hz] at he
    clear HB hq hz
    rcases hg with rfl | rfl
    all_goals
      go_enter Tryd.func84, Tryd.ntmps84
      go_wp2
      rw [HB2.out]
      go_ret
      exact ⟨rfl, rfl⟩
  · have HB2 : Hid (b = (k != 0 && good t)) := by
      show _ = _
      rw [← HB.out]
      unfold fitsS
      rw [if_neg hz]
    have HQ := hq (by omega)
    rw [decide_eq_false hz] at he
    clear HB hq hz
    generalize good t = z at *
    rcases hg with rfl | rfl
    · go_enter Tryd.func84, Tryd.ntmps84
      go_wp2_with (first
        | (go_at_call 85; refine HQ.out.mono ?_; rintro e w1 ⟨rfl, hw1⟩; subst hw1)
        | go_in)
      all_goals (rw [HB2.out]; go_ret; refine ⟨?_, rfl⟩; simp_all)
    · go_enter Tryd.func84, Tryd.ntmps84
      go_wp2_with (first
        | (go_at_call 86; refine HQ.out.mono ?_; rintro e w1 ⟨rfl, hw1⟩; subst hw1)
        | go_in)
      all_goals (rw [HB2.out]; go_ret; refine ⟨?_, rfl⟩; simp_all)


def ndV (x : Nd) : Array Value := #[.int .i64 x.kind, .int .i64 x.pos, .string x.name, .string x.label, .string x.typ, .int .i64 x.op, .int .i64 x.int, .string x.text, .int .i64 x.size]

/-- The cells of a block that was laid. -/
theorem cell_new (w : World) (cs : Array Value) (t : TypeId) (k : Nat) (v : Value) (hv : cs[k]? = some v) : (w.alloc (.cells cs t)).cell? ⟨w.heap.size, k, none⟩ = some v := by
  have h := heap_alloc_new w (.cells cs t)
  simp only [World.cell?, h]
  simpa using hv
theorem cell_old {w : World} {a : Addr} {v : Value} (o : Obj) (h : w.cell? a = some v) : (w.alloc o).cell? a = some v :=
  (((Below.refl w.heap.size w).alloc (Nat.le_refl _) o).cell (p := a) (World.block_lt_of_cell? w a h)).trans h

set_option maxRecDepth 100000 in
set_option maxHeartbeats 4000000 in
theorem fieldsFit_any (s : Shp) (x : Nd) (w : World) (hr : Hid (w.rangeAt 1 0 kwCells)) (hw : 2 ≤ w.heap.size) (hn : x.name.size ≤ 140737488355328) (hl : x.label.size ≤ 140737488355328) (ht : x.typ.size ≤ 140737488355328) (hx : x.text.size ≤ 140737488355328) :
    Calls Tryd.prog 75 #[.agg (shpV s), .agg (ndV x)] w fun e w' => e = .returned (.bool (fieldsS nameS typeS s x)) ∧ Below w.heap.size w w' := by
  obtain ⟨l1, n1, t1, li, mi, fo, lo, lg, fw, mo⟩ := s
  obtain ⟨kd, ps, nm, lb, ty, op, it, tx, sz⟩ := x
  obtain ⟨F, hF⟩ : ∃ F : Int → ByteArray → Nat → Bool, F = fun k t g => if g = 85 then fitsS k t nameS else fitsS k t typeS := ⟨_, rfl⟩
  obtain ⟨r, hrr⟩ : ∃ r, fieldsS nameS typeS ⟨l1, n1, t1, li, mi, fo, lo, lg, fw, mo⟩ ⟨kd, ps, nm, lb, ty, op, it, tx, sz⟩ = r := ⟨_, rfl⟩
  have HR : Hid (r = (decide (0 ≤ ps) && F l1 lb 85 && F n1 nm 85 && F t1 ty 86 && decide (li ≤ it) && decide (it ≤ mi) && decide (fo ≤ op) && decide (op ≤ lo) && decide ((tx.size : Int) ≤ lg))) := by
    rw [hF]
    exact hrr.symm
  rw [hrr]
  clear hrr
  obtain ⟨w1, hw1⟩ : ∃ w1, (w.alloc (.cells (shpV ⟨l1, n1, t1, li, mi, fo, lo, lg, fw, mo⟩) 102)).alloc (.cells (ndV ⟨kd, ps, nm, lb, ty, op, it, tx, sz⟩) 39) = w1 := ⟨_, rfl⟩
  have HB : Hid (Below w.heap.size w w1) := by
    rw [← hw1]
    exact (((Below.refl _ w).alloc (Nat.le_refl _) _).alloc (by simp) _)
  have HF : Hid (∀ (k : Int) (t : ByteArray) (g : Nat), t.size ≤ 140737488355328 → (g = 85 ∨ g = 86) → Calls Tryd.prog 84 #[.int .i64 k, .string t, .func (.func g) #[] #[]] w1 fun e w'' => e = .returned (.bool (F k t g)) ∧ w1 = w'') := fun k t g hs hg => by
    rcases hg with rfl | rfl
    · have := fits_any k t 85 nameS w1 (.inl rfl) fun h => (isName_any t w1 h (fun j v hv => (HB.out.cell (p := ⟨1, 0 + j, none⟩) (by show 1 < _; omega)).trans (hr.out j v hv)) hs).mono fun e w' h => ⟨h.1, h.2.symm⟩
      rw [hF]
      exact this
    · have := fits_any k t 86 typeS w1 (.inr rfl) fun _ => isType_any t w1 hs
      rw [hF]
      exact this
  clear hF
  have C : ∀ (k : Nat) (v : Value), (shpV ⟨l1, n1, t1, li, mi, fo, lo, lg, fw, mo⟩)[k]? = some v → w1.cell? ⟨w.heap.size, k, none⟩ = some v := fun k v hv => by
    rw [← hw1]
    exact cell_old _ (cell_new _ _ _ _ _ hv)
  have D : ∀ (k : Nat) (v : Value), (ndV ⟨kd, ps, nm, lb, ty, op, it, tx, sz⟩)[k]? = some v → w1.cell? ⟨w.heap.size + 1, k, none⟩ = some v := fun k v hv => by
    rw [← hw1]
    have := cell_new (w.alloc (.cells (shpV ⟨l1, n1, t1, li, mi, fo, lo, lg, fw, mo⟩) 102)) _ 39 k v hv
    rwa [World.size_alloc] at this
  have c0 : w1.cell? ⟨w.heap.size, 0, none⟩ = some (.int .i64 l1) := C 0 _ rfl
  have c1 : w1.cell? ⟨w.heap.size, 1, none⟩ = some (.int .i64 n1) := C 1 _ rfl
  have c2 : w1.cell? ⟨w.heap.size, 2, none⟩ = some (.int .i64 t1) := C 2 _ rfl
  have c3 : w1.cell? ⟨w.heap.size, 3, none⟩ = some (.int .i64 li) := C 3 _ rfl
  have c4 : w1.cell? ⟨w.heap.size, 4, none⟩ = some (.int .i64 mi) := C 4 _ rfl
  have c5 : w1.cell? ⟨w.heap.size, 5, none⟩ = some (.int .i64 fo) := C 5 _ rfl
  have c6 : w1.cell? ⟨w.heap.size, 6, none⟩ = some (.int .i64 lo) := C 6 _ rfl
  have c7 : w1.cell? ⟨w.heap.size, 7, none⟩ = some (.int .i64 lg) := C 7 _ rfl
  have d1 : w1.cell? ⟨w.heap.size + 1, 1, none⟩ = some (.int .i64 ps) := D 1 _ rfl
  have d2 : w1.cell? ⟨w.heap.size + 1, 2, none⟩ = some (.string nm) := D 2 _ rfl
  have d3 : w1.cell? ⟨w.heap.size + 1, 3, none⟩ = some (.string lb) := D 3 _ rfl
  have d4 : w1.cell? ⟨w.heap.size + 1, 4, none⟩ = some (.string ty) := D 4 _ rfl
  have d5 : w1.cell? ⟨w.heap.size + 1, 5, none⟩ = some (.int .i64 op) := D 5 _ rfl
  have d6 : w1.cell? ⟨w.heap.size + 1, 6, none⟩ = some (.int .i64 it) := D 6 _ rfl
  have d7 : w1.cell? ⟨w.heap.size + 1, 7, none⟩ = some (.string tx) := D 7 _ rfl
  clear C D
  simp only [shpV, ndV] at hw1 ⊢
  simp only at hn hl ht hx
  go_enter Tryd.func75, Tryd.ntmps75
  go_upto_region 1 with fail
  clear hw1
  have HB2 : Hid (Below w.heap.size w w1) := HB
  go_wp2_with (first
    | (go_at_call 84; refine (HF.out _ _ _ (by assumption) (by first | exact .inl rfl | exact .inr rfl)).mono ?_; rintro e w2 ⟨rfl, hw2⟩; subst hw2)
    | go_in)
  all_goals
    rw [HR.out]
    clear HR HF HB hr c0 c1 c2 c3 c4 c5 c6 c7 d1 d2 d3 d4 d5 d6 d7
    go_ret
    refine ⟨?_, HB2.out⟩
    first
      | (simp [*]; done)
      | (simp [*]; omega)
      | (simp_all; done)
      | (simp_all; omega)

end Go.Proofs.YtlocaalipjjnpaaDoor

namespace Go.Proofs.YtlocaalipjjnpaaDoor
open Go.RowKit

/-- The nodes of a list lie in memory from an address on. -/
structure Lay (w : World) (g o : Nat) (L : List Nd) : Prop where
  lt : g < w.heap.size
  c : ∀ i, i < L.length → ∀ (j : Nat) (v : Value), (ndV (nd L i))[j]? = some v → w.cell? ⟨g, o + i * 9 + j, none⟩ = some v

theorem Lay.below {w w' : World} {g o B : Nat} {L : List Nd} (h : Lay w g o L) (hb : Below B w w') (hB : g < B) (hs : w.heap.size ≤ w'.heap.size) : Lay w' g o L :=
  ⟨Nat.lt_of_lt_of_le h.lt hs, fun i hi j v hv => (hb.cell (p := ⟨g, o + i * 9 + j, none⟩) hB).trans (h.c i hi j v hv)⟩
theorem Lay.next {w w' : World} {g o : Nat} {L : List Nd} (h : Lay w g o L) (hb : Below w.heap.size w w') : Lay w' g o L := h.below hb h.lt hb.size
theorem Lay.kind {w : World} {g o : Nat} {L : List Nd} (h : Lay w g o L) {i : Nat} (hi : i < L.length) : w.cell? ⟨g, o + i * 9, none⟩ = some (.int .i64 (nd L i).kind) := h.c i hi 0 _ rfl
theorem Lay.size {w : World} {g o : Nat} {L : List Nd} (h : Lay w g o L) {i : Nat} (hi : i < L.length) : w.cell? ⟨g, o + i * 9 + 8, none⟩ = some (.int .i64 (nd L i).size) := h.c i hi 8 _ rfl

theorem place_end (L : List Nd) : place L L.length = false := by unfold place; simp [plc]
theorem drop_nd (L : List Nd) (k : Nat) (h : k < L.length) : L.drop k = nd L k :: L.drop (k + 1) := by
  rw [List.drop_eq_getElem_cons h]
  simp [nd, h]
theorem place_go (L : List Nd) (k : Nat) (h : k < L.length) (hk : (nd L k).kind = 24) : place L k = place L (k + 1) := by
  unfold place
  rw [drop_nd L k h]
  show (if (nd L k).kind = 24 then _ else _) = _
  rw [if_pos hk]
theorem place_stop (L : List Nd) (k : Nat) (h : k < L.length) (hk : (nd L k).kind ≠ 24) : place L k = ((nd L k).kind == 23) := by
  unfold place
  rw [drop_nd L k h]
  show (if (nd L k).kind = 24 then _ else _) = _
  rw [if_neg hk]

set_option maxRecDepth 100000 in
set_option maxHeartbeats 1000000 in
theorem isPlace_any (w : World) (g o cap : Nat) (L : List Nd) (n : Nat) (hL : L.length ≤ 1353245080300) (hn : n ≤ L.length) (h : Hid (Lay w g o L)) :
    Calls Tryd.prog 94 #[.slice (some ⟨g, o, none⟩) L.length cap, .int .i64 (n : Int)] w fun e w' => e = .returned (.bool (place L n)) ∧ w = w' := by
  obtain ⟨b, hb⟩ : ∃ b, place L n = b := ⟨_, rfl⟩
  have HB : Hid (place L n = b) := hb
  rw [hb]
  clear hb
  have HS : Hid (Hid (Lay w g o L)) := h
  go_enter Tryd.func94, Tryd.ntmps94
  go_wp2
  go_loop [1] (fun v => ∃ k : Nat, k ≤ L.length ∧ v = .int .i64 (k : Int) ∧ Hid (place L k = b)) (fun v => L.length - (intOf v).toNat)
  case atStart => exact ⟨n, hn, rfl, HB⟩
  case round =>
    obtain ⟨k, hk, rfl, hp⟩ := hrel
    clear HB
    by_cases hlt : k < L.length
    · have i0 : (0 : Int) ≤ (k : Int) := by omega
      have i1 : (k : Int) < (L.length : Int) := by omega
      have d0 := HS.out.out.kind hlt
      by_cases h24 : (nd L k).kind = 24
      · have HP : Hid (place L (k + 1) = b) := (place_go L k hlt h24).symm.trans hp.out
        rw [h24] at d0
        clear hp
        go_wp2
        exact ⟨⟨k + 1, by omega, by go_num, HP⟩, by simp [intOf]; omega⟩
      · have HP : Hid (((nd L k).kind == 23) = b) := (place_stop L k hlt h24).symm.trans hp.out
        clear hp
        generalize (nd L k).kind = q at *
        have h24' : (q == 24) = false := by simpa using h24
        go_wp2
        all_goals rw [← HP.out]
        all_goals go_ret
        all_goals (refine ⟨?_, rfl⟩; simp_all)
    · obtain rfl : k = L.length := by omega
      have HP : Hid (b = false) := hp.out.symm.trans (place_end L)
      clear hp
      go_wp2
      rw [HP.out]
      go_ret
      exact ⟨rfl, rfl⟩

end Go.Proofs.YtlocaalipjjnpaaDoor

namespace Go.Proofs.YtlocaalipjjnpaaDoor
open Go.RowKit

/-- 'may' in letters. -/
def mayB (p q : Int) (c : Nat) (lt pl ex st : Bool) : Bool :=
  if p = 1 then q == 2
  else if p = 2 then (if lt then q == 3 else q == 4)
  else if p = 4 then st
  else if p = 6 ∧ c = 0 then pl
  else if p = 14 then pl
  else if p = 15 then q == 25
  else if p = 7 ∧ 0 < c then q == 4 || (c == 2 && q == 7)
  else if p = 8 ∧ c = 1 then q == 4
  else if p = 9 ∧ c = 2 then q == 4
  else ex
theorem may_b (L : List Nd) (n k c : Nat) : may L n k c = mayB (nd L n).kind (nd L k).kind c (decide ((k : Int) + sz L k < (n : Int) + sz L n)) (place L k) (isExpr (nd L k).kind) (isStmt (nd L k).kind) := by
  unfold may mayB
  simp only [decide_eq_true_eq]

set_option maxRecDepth 100000 in
set_option maxHeartbeats 4000000 in
theorem mayStand_any (w : World) (g o cap : Nat) (L : List Nd) (n k c : Nat) (hL : L.length ≤ 1353245080300) (hn : n < L.length) (hk : k < L.length) (hgn : Good L n) (hgk : Good L k) (hc : c ≤ 1353245080300) (h : Hid (Lay w g o L)) :
    Calls Tryd.prog 88 #[.slice (some ⟨g, o, none⟩) L.length cap, .int .i64 (n : Int), .int .i64 (k : Int), .int .i64 (c : Int)] w fun e w' => e = .returned (.bool (may L n k c)) ∧ Below w.heap.size w w' := by
  rw [may_b]
  have HP : Hid (Calls Tryd.prog 94 #[.slice (some ⟨g, o, none⟩) L.length cap, .int .i64 (k : Int)] w fun e w' => e = .returned (.bool (place L k)) ∧ w = w') := isPlace_any w g o cap L k hL (by omega) h
  have HE : Hid (Calls Tryd.prog 83 #[.int .i64 (nd L k).kind] w fun e w' => e = .returned (.bool (isExpr (nd L k).kind)) ∧ w = w') := isExpression_any _ w
  have HS : Hid (Calls Tryd.prog 93 #[.int .i64 (nd L k).kind] w fun e w' => e = .returned (.bool (isStmt (nd L k).kind)) ∧ w = w') := isStatement_any _ w
  have i0 : (0 : Int) ≤ (n : Int) := by omega
  have i1 : (n : Int) < (L.length : Int) := by omega
  have j0 : (0 : Int) ≤ (k : Int) := by omega
  have j1 : (k : Int) < (L.length : Int) := by omega
  have dn := h.out.kind hn
  have dk := h.out.kind hk
  have en := h.out.size hn
  have ek := h.out.size hk
  obtain ⟨a1, a2⟩ := hgn
  obtain ⟨b1, b2⟩ := hgk
  unfold sz at *
  generalize place L k = pl at *
  generalize isExpr (nd L k).kind = ex at *
  generalize isStmt (nd L k).kind = st at *
  generalize (nd L n).kind = p at *
  generalize (nd L k).kind = q at *
  generalize (nd L n).size = sn at *
  generalize (nd L k).size = sk at *
  obtain ⟨r, hr⟩ : ∃ r, mayB p q c (decide ((k : Int) + sk < (n : Int) + sn)) pl ex st = r := ⟨_, rfl⟩
  have HR : Hid (mayB p q c (decide ((k : Int) + sk < (n : Int) + sn)) pl ex st = r) := hr
  rw [hr]
  clear hr h
  by_cases h2 : p = 2
  · subst h2
    clear HP HE HS
    have HR2 : Hid (r = if (k : Int) + sk < (n : Int) + sn then q == 3 else q == 4) := by
      show _ = _
      rw [← HR.out]
      unfold mayB
      simp
    clear HR
    by_cases hq : (k : Int) + sk < (n : Int) + sn
    · have HR3 : Hid (r = (q == 3)) := by rw [if_pos hq] at HR2; exact HR2
      clear HR2
      go_enter Tryd.func88, Tryd.ntmps88
      go_wp2
      go_region
      go_wp2
      rw [HR3.out]
      go_ret
      exact ⟨rfl, (Below.refl _ w).drew⟩
    · have HR3 : Hid (r = (q == 4)) := by rw [if_neg hq] at HR2; exact HR2
      clear HR2
      go_enter Tryd.func88, Tryd.ntmps88
      go_wp2
      go_region
      go_wp2
      rw [HR3.out]
      go_ret
      exact ⟨rfl, (Below.refl _ w).drew⟩
  · have h2' : (p == 2) = false := by simpa using h2
    go_enter Tryd.func88, Tryd.ntmps88
    go_wp2_with (first
      | (go_at_call 83; refine HE.out.mono ?_; rintro e w2 ⟨rfl, hw2⟩; subst hw2)
      | (go_at_call 93; refine HS.out.mono ?_; rintro e w2 ⟨rfl, hw2⟩; subst hw2)
      | (go_at_call 94; refine HP.out.mono ?_; rintro e w2 ⟨rfl, hw2⟩; subst hw2)
      | go_in)
    all_goals
      rw [← HR.out]
      clear HR HE HS HP dn dk en ek
      go_ret
      refine ⟨?_, Below.refl _ _⟩
      simp only [beq_iff_eq, beq_eq_false_iff_ne, Int.natCast_eq_zero, ne_eq] at *
    all_goals first
      | (simp_all [mayB]; done)
      | (simp_all [mayB]; omega)
      | (have c2 : c = 2 := (by omega); subst c2; simp_all [mayB]; done)

end Go.Proofs.YtlocaalipjjnpaaDoor

namespace Go.Proofs.YtlocaalipjjnpaaDoor
open Go.RowKit

theorem end_int {L : List Nd} {n : Nat} (h : Good L n) : (endOf L n : Int) = n + sz L n ∧ n < endOf L n ∧ endOf L n ≤ L.length := by
  obtain ⟨h1, h2⟩ := h
  unfold endOf
  omega

set_option maxRecDepth 100000 in
set_option maxHeartbeats 400000 in
theorem behind_any (w : World) (g o cap : Nat) (L : List Nd) (p1 p2 : Option Addr) (n1 c1 n2 c2 n : Nat) (hL : L.length ≤ 1353245080300) (hn : n < L.length) (hg : Good L n) (h : Hid (Lay w g o L)) :
    Calls Tryd.prog 58 #[.agg #[.slice (some ⟨g, o, none⟩) L.length cap, .slice p1 n1 c1, .slice p2 n2 c2], .int .i64 (n : Int)] w fun e w' => e = .returned (.int .i64 (endOf L n : Int)) ∧ Below w.heap.size w w' := by
  obtain ⟨w1, hw1⟩ : ∃ w1, w.alloc (.cells #[.slice (some ⟨g, o, none⟩) L.length cap, .slice p1 n1 c1, .slice p2 n2 c2] 51) = w1 := ⟨_, rfl⟩
  have B1 : Hid (Below w.heap.size w w1) := by show Below _ _ _; rw [← hw1]; exact (Below.refl _ w).alloc (Nat.le_refl _) _
  have c0 : w1.cell? ⟨w.heap.size, 0, none⟩ = some (.slice (some ⟨g, o, none⟩) L.length cap) := by rw [← hw1]; exact cell_new _ _ _ _ _ rfl
  have hs := (h.out.next B1.out).size hn
  obtain ⟨he, e1, e2⟩ := end_int hg
  rw [show (nd L n).size = (endOf L n : Int) - n by show sz L n = _; omega] at hs
  generalize endOf L n = E at *
  have i0 : (0 : Int) ≤ (n : Int) := by omega
  have i1 : (n : Int) < (L.length : Int) := by omega
  have i2 : (n : Int) + ((E : Int) - n) = (E : Int) := by omega
  have i3 : IntKind.i64.wrap ((n : Int) + ((E : Int) - n)) = (E : Int) := by rw [IntKind.wrap_i64]; omega
  clear he hg h
  go_enter Tryd.func58, Tryd.ntmps58
  go_wp2
  go_ret
  exact ⟨by first | rfl | (congr 2; omega), B1.out⟩

set_option maxRecDepth 100000 in
set_option maxHeartbeats 400000 in
theorem branches_any (w : World) (g o cap : Nat) (L : List Nd) (p1 p2 : Option Addr) (n1 c1 n2 c2 n : Nat) (hL : L.length ≤ 1353245080300) (hn : n + 1 < L.length) (hg : Good L (n + 1)) (hn2 : endOf L (n + 1) < L.length) (hg2 : Good L (endOf L (n + 1))) (h : Hid (Lay w g o L)) :
    Calls Tryd.prog 57 #[.agg #[.slice (some ⟨g, o, none⟩) L.length cap, .slice p1 n1 c1, .slice p2 n2 c2], .int .i64 (n : Int)] w fun e w' => e = .returned (.tuple #[.int .i64 (endOf L (n + 1) : Int), .int .i64 (endOf L (endOf L (n + 1)) : Int)]) ∧ Below w.heap.size w w' := by
  obtain ⟨w1, hw1⟩ : ∃ w1, w.alloc (.cells #[.slice (some ⟨g, o, none⟩) L.length cap, .slice p1 n1 c1, .slice p2 n2 c2] 51) = w1 := ⟨_, rfl⟩
  have B1 : Hid (Below w.heap.size w w1) := by show Below _ _ _; rw [← hw1]; exact (Below.refl _ w).alloc (Nat.le_refl _) _
  have c0 : w1.cell? ⟨w.heap.size, 0, none⟩ = some (.slice (some ⟨g, o, none⟩) L.length cap) := by rw [← hw1]; exact cell_new _ _ _ _ _ rfl
  have d1 : w1.cell? ⟨w.heap.size, 1, none⟩ = some (.slice p1 n1 c1) := by rw [← hw1]; exact cell_new _ _ _ _ _ rfl
  have d2 : w1.cell? ⟨w.heap.size, 2, none⟩ = some (.slice p2 n2 c2) := by rw [← hw1]; exact cell_new _ _ _ _ _ rfl
  have z1 : w.heap.size < w1.heap.size := by rw [← hw1]; simp
  have H1 : Hid (Calls Tryd.prog 58 #[.agg #[.slice (some ⟨g, o, none⟩) L.length cap, .slice p1 n1 c1, .slice p2 n2 c2], .int .i64 ((n : Int) + 1)] w1 fun e w' => e = .returned (.int .i64 (endOf L (n + 1) : Int)) ∧ Below w1.heap.size w1 w') := by
    have := behind_any w1 g o cap L p1 p2 n1 c1 n2 c2 (n + 1) hL hn hg (h.out.next B1.out)
    rwa [Int.natCast_add] at this
  have H2 : Hid (∀ w', Below w1.heap.size w1 w' → Calls Tryd.prog 58 #[.agg #[.slice (some ⟨g, o, none⟩) L.length cap, .slice p1 n1 c1, .slice p2 n2 c2], .int .i64 (endOf L (n + 1) : Int)] w' fun e w'' => e = .returned (.int .i64 (endOf L (endOf L (n + 1)) : Int)) ∧ Below w'.heap.size w' w'') := fun w' hb =>
    behind_any w' g o cap L p1 p2 n1 c1 n2 c2 (endOf L (n + 1)) hL hn2 hg2 ((h.out.next B1.out).next hb)
  have hE1 : endOf L (endOf L (n + 1)) ≤ L.length := (end_int hg2).2.2
  generalize endOf L (endOf L (n + 1)) = E2 at *
  generalize endOf L (n + 1) = E at *
  have i3 : IntKind.i64.wrap ((n : Int) + 1) = (n : Int) + 1 := by rw [IntKind.wrap_i64]; omega
  clear hg hg2 h
  go_enter Tryd.func57, Tryd.ntmps57
  go_wp2_with (first
    | (go_at_call 58; first
        | (refine (H2.out _ hb2).mono ?_; rintro e w3 ⟨rfl, hb3⟩)
        | (refine H1.out.mono ?_; rintro e w2 ⟨rfl, hb2⟩; have q0 := (hb2.cell (p := ⟨w.heap.size, 0, none⟩) z1).trans c0; have q1 := (hb2.cell (p := ⟨w.heap.size, 1, none⟩) z1).trans d1; have q2 := (hb2.cell (p := ⟨w.heap.size, 2, none⟩) z1).trans d2))
    | go_in)
  go_ret2
  exact ⟨rfl, B1.out.trans ((hb2.trans (hb3.mono hb2.size)).mono B1.out.size)⟩

def hookV (x : Nd) : Bool := hooked x
set_option maxRecDepth 100000 in
set_option maxHeartbeats 400000 in
theorem isHooked_any (x : Nd) (w : World) :
    Calls Tryd.prog 23 #[.agg (ndV x)] w fun e w' => e = .returned (.bool (hooked x)) ∧ Below w.heap.size w w' := by
  obtain ⟨kd, ps, nm, lb, ty, op, it, tx, zz⟩ := x
  obtain ⟨b, hb⟩ : ∃ b, hooked ⟨kd, ps, nm, lb, ty, op, it, tx, zz⟩ = b := ⟨_, rfl⟩
  have HB : Hid ((decide (kd = 16) || (decide (kd = 12) && !decide (it = 0))) = b) := hb
  rw [hb]
  clear hb
  simp only [ndV]
  by_cases h1 : kd = 16
  · subst h1
    have hb : b = true := by rw [← HB.out]; rfl
    subst hb
    go_enter Tryd.func23, Tryd.ntmps23
    go_wp2
    go_ret
    exact ⟨rfl, (Below.refl _ w).alloc (Nat.le_refl _) _⟩
  · have h1' : (kd == 16) = false := by simpa using h1
    by_cases h2 : kd = 12
    · subst h2
      by_cases h3 : it = 0
      · subst h3
        have hb : b = false := by rw [← HB.out]; rfl
        subst hb
        go_enter Tryd.func23, Tryd.ntmps23
        go_wp2
        go_ret
        exact ⟨rfl, (Below.refl _ w).alloc (Nat.le_refl _) _⟩
      · have hb : b = true := by rw [← HB.out]; simp [h3]
        subst hb
        have h3' : (it != 0) = true := by simpa using h3
        go_enter Tryd.func23, Tryd.ntmps23
        go_wp2
        go_ret
        exact ⟨by first | rfl | simp [h3], (Below.refl _ w).alloc (Nat.le_refl _) _⟩
    · have h2' : (kd == 12) = false := by simpa using h2
      have hb : b = false := by rw [← HB.out]; simp [h1, h2]
      subst hb
      go_enter Tryd.func23, Tryd.ntmps23
      go_wp2
      go_ret
      exact ⟨by first | rfl | simp [h1, h2], (Below.refl _ w).alloc (Nat.le_refl _) _⟩

end Go.Proofs.YtlocaalipjjnpaaDoor

namespace Go.Proofs.YtlocaalipjjnpaaDoor
open Go.RowKit

/-- Do subtrees fill the nodes from k up to e, and theirs too? -/
def szF (L : List Nd) : Nat → Nat → Nat → Bool
  | 0, _, _ => true
  | f + 1, k, e => if e ≤ k then true else if sz L k < 1 ∨ (e : Int) - k < sz L k then false else szF L f (k + 1) (k + (sz L k).toNat) && szF L f (k + (sz L k).toNat) e

theorem szF_fuel (L : List Nd) : ∀ (f f' k e : Nat), e - k ≤ f → e - k ≤ f' → szF L f k e = szF L f' k e
  | 0, 0, _, _, _, _ => rfl
  | 0, f' + 1, k, e, h, _ => by
    show true = if e ≤ k then true else _
    rw [if_pos (by omega)]
  | f + 1, 0, k, e, _, h => by
    show (if e ≤ k then true else _) = true
    rw [if_pos (by omega)]
  | f + 1, f' + 1, k, e, h, h' => by
    show (if e ≤ k then true else _) = (if e ≤ k then true else _)
    by_cases h1 : e ≤ k
    · rw [if_pos h1, if_pos h1]
    · rw [if_neg h1, if_neg h1]
      by_cases h2 : sz L k < 1 ∨ (e : Int) - k < sz L k
      · rw [if_pos h2, if_pos h2]
      · rw [if_neg h2, if_neg h2, szF_fuel L f f' (k + 1) _ (by omega) (by omega), szF_fuel L f f' (k + (sz L k).toNat) e (by omega) (by omega)]
def sizesS (L : List Nd) (k e : Nat) : Bool := szF L (e - k) k e
theorem sizesS_end (L : List Nd) (k e : Nat) (h : e ≤ k) : sizesS L k e = true := by
  unfold sizesS
  rw [show e - k = 0 by omega]
  rfl
theorem sizesS_bad (L : List Nd) (k e : Nat) (h : k < e) (hb : sz L k < 1 ∨ (e : Int) - k < sz L k) : sizesS L k e = false := by
  unfold sizesS
  obtain ⟨f, hf⟩ : ∃ f, e - k = f + 1 := ⟨e - k - 1, by omega⟩
  rw [hf]
  show (if e ≤ k then true else _) = _
  rw [if_neg (by omega), if_pos hb]
theorem sizesS_go (L : List Nd) (k e : Nat) (h : k < e) (hb : ¬ (sz L k < 1 ∨ (e : Int) - k < sz L k)) : sizesS L k e = (sizesS L (k + 1) (k + (sz L k).toNat) && sizesS L (k + (sz L k).toNat) e) := by
  unfold sizesS
  obtain ⟨f, hf⟩ : ∃ f, e - k = f + 1 := ⟨e - k - 1, by omega⟩
  rw [hf]
  show (if e ≤ k then true else _) = _
  rw [if_neg (by omega), if_neg hb]
  congr 1
  · exact szF_fuel L _ _ _ _ (by omega) (by omega)
  · exact szF_fuel L _ _ _ _ (by omega) (by omega)

set_option maxRecDepth 100000 in
set_option maxHeartbeats 1000000 in
theorem sizes_any (g o cap : Nat) (L : List Nd) (hL : L.length ≤ 1353245080300) (w : World) (hl : Hid (Lay w g o L)) : ∀ (d n : Nat), sz L n ≤ (d : Int) → n < L.length → 1 ≤ sz L n → (n : Int) + sz L n ≤ L.length →
    Calls Tryd.prog 25 #[.slice (some ⟨g, o, none⟩) L.length cap, .int .i64 (n : Int)] w fun e w' => e = .returned (.bool (sizesS L (n + 1) (n + (sz L n).toNat))) ∧ w = w'
  | 0, n, h, _, h1, _ => by omega
  | d + 1, n, hd, hn, h1, h2 => by
    have IH : Hid (∀ k, sz L k ≤ (d : Int) → k < L.length → 1 ≤ sz L k → (k : Int) + sz L k ≤ L.length → Calls Tryd.prog 25 #[.slice (some ⟨g, o, none⟩) L.length cap, .int .i64 (k : Int)] w fun e w' => e = .returned (.bool (sizesS L (k + 1) (k + (sz L k).toNat))) ∧ w = w') := fun k => sizes_any g o cap L hL w hl d k
    have hcs := hl.out.size hn
    obtain ⟨e, he⟩ : ∃ e : Nat, (n : Int) + sz L n = (e : Int) := ⟨n + (sz L n).toNat, by omega⟩
    rw [show n + (sz L n).toNat = e by omega]
    rw [show (nd L n).size = (e : Int) - n by show sz L n = _; omega] at hcs
    have hne : n < e := by omega
    have hel : e ≤ L.length := by omega
    have HD : Hid ((e : Int) - n ≤ (d : Int) + 1) := by show _ ≤ _; omega
    obtain ⟨b, hb⟩ : ∃ b, sizesS L (n + 1) e = b := ⟨_, rfl⟩
    have HB : Hid (sizesS L (n + 1) e = b) := hb
    rw [hb]
    clear hb he hd h1 h2
    have i0 : (0 : Int) ≤ (n : Int) := by omega
    have i1 : (n : Int) < (L.length : Int) := by omega
    have i2 : IntKind.i64.wrap ((n : Int) + ((e : Int) - n)) = (e : Int) := by rw [IntKind.wrap_i64]; omega
    have i3 : IntKind.i64.wrap ((n : Int) + 1) = (n : Int) + 1 := by rw [IntKind.wrap_i64]; omega
    go_enter Tryd.func25, Tryd.ntmps25
    go_wp2
    go_loopw [6] (fun v wr => ∃ k : Nat, n < k ∧ k ≤ e ∧ v = .int .i64 (k : Int) ∧ Hid (sizesS L k e = b) ∧ w = wr) (fun v _ => e - (intOf v).toNat)
    case atStart => exact ⟨n + 1, by omega, by omega, by go_num, HB, rfl⟩
    case round =>
      obtain ⟨k, hnk, hke, rfl, hs, hw⟩ := hrel
      subst hw
      clear HB hcs i0 i1 i2 i3
      by_cases hlt : k < e
      · have hk := hl.out.size (i := k) (by omega)
        have j0 : (0 : Int) ≤ (k : Int) := by omega
        have j1 : (k : Int) < (L.length : Int) := by omega
        have j2 : (k : Int) < (e : Int) := by omega
        have j3 : IntKind.i64.wrap ((e : Int) - (k : Int)) = (e : Int) - (k : Int) := by rw [IntKind.wrap_i64]; omega
        obtain ⟨s, hsk⟩ : ∃ s, sz L k = s := ⟨_, rfl⟩
        have HSK : Hid (sz L k = s) := hsk
        rw [show (nd L k).size = s from hsk] at hk
        clear hsk
        by_cases hbad : s < 1 ∨ (¬ s < 1 ∧ (e : Int) - (k : Int) < s)
        · have HF : b = false := by rw [← hs.out]; exact sizesS_bad L k e hlt (by rw [HSK.out]; omega)
          subst HF
          clear hs
          rcases hbad with hb | ⟨hb, hb'⟩
          · go_wp2
            go_ret
            exact ⟨rfl, rfl⟩
          · go_wp2
            go_ret
            exact ⟨rfl, rfl⟩
        · obtain ⟨m, rfl⟩ : ∃ m : Nat, s = (m : Int) := ⟨s.toNat, by omega⟩
          have hg := sizesS_go L k e hlt (by rw [HSK.out]; omega)
          rw [HSK.out, Int.toNat_natCast, hs.out] at hg
          obtain ⟨r, hr⟩ : ∃ r, sizesS L (k + 1) (k + m) = r := ⟨_, rfl⟩
          have HC : Hid (Calls Tryd.prog 25 #[.slice (some ⟨g, o, none⟩) L.length cap, .int .i64 (k : Int)] w fun e w' => e = .returned (.bool r) ∧ w = w') := by
            have := IH.out k (by rw [HSK.out]; have := HD.out; omega) (by omega) (by rw [HSK.out]; omega) (by rw [HSK.out]; omega)
            rwa [HSK.out, Int.toNat_natCast, hr] at this
          rw [hr] at hg
          have HG : Hid (b = (r && sizesS L (k + m) e)) := hg
          have k1 : ¬ (m : Int) < 1 := by omega
          have k2 : ¬ (e : Int) - (k : Int) < (m : Int) := by omega
          have k3 : IntKind.i64.wrap ((k : Int) + (m : Int)) = (k : Int) + (m : Int) := by rw [IntKind.wrap_i64]; omega
          clear hg hr hs hbad
          cases r with
          | false =>
            have HF : b = false := by rw [HG.out]; rfl
            subst HF
            clear HG
            go_wp2_with (first
              | (go_at_call 25; refine HC.out.mono ?_; rintro e w1 ⟨rfl, hw1⟩; subst hw1)
              | go_in)
            go_ret
            exact ⟨rfl, rfl⟩
          | true =>
            have HF : Hid (sizesS L (k + m) e = b) := by show _ = _; rw [HG.out]; simp
            clear HG
            go_wp2_with (first
              | (go_at_call 25; refine HC.out.mono ?_; rintro e w1 ⟨rfl, hw1⟩; subst hw1)
              | go_in)
            exact ⟨⟨k + m, by omega, by omega, by go_num, HF, by first | rfl | trivial⟩, by simp [intOf]; omega⟩
      · obtain rfl : k = e := by omega
        have HF : b = true := by rw [← hs.out]; exact sizesS_end L _ _ (Nat.le_refl _)
        subst HF
        clear hs
        go_wp2
        go_ret
        exact ⟨rfl, rfl⟩
end Go.Proofs.YtlocaalipjjnpaaDoor

namespace Go.Proofs.YtlocaalipjjnpaaDoor
open Go.RowKit

/-- Is nothing in these fields? -/
def bareZ (nm lb ty : ByteArray) (op it : Int) (tx : ByteArray) : Bool := (((((nm.toList == []) && (lb.toList == [])) && (ty.toList == [])) && (op == 0)) && (it == 0)) && (tx.toList == [])

set_option maxRecDepth 100000 in
theorem neqBare (q : Int) (nm lb ty : ByteArray) (op it : Int) (tx : ByteArray) : ∀ w : World,
    (binOp BinOp.neq 39 (.agg #[.int .i64 q, .int .i64 0, .string nm, .string lb, .string ty, .int .i64 op, .int .i64 it, .string tx, .int .i64 0]) (.agg #[.int .i64 q, .int .i64 0, .string (⟨#[]⟩ : ByteArray), .string (⟨#[]⟩ : ByteArray), .string (⟨#[]⟩ : ByteArray), .int .i64 0, .int .i64 0, .string (⟨#[]⟩ : ByteArray), .int .i64 0])).run Tryd.prog w = .ok (.bool (!bareZ nm lb ty op it tx)) w := by
  intro w
  unfold bareZ
  cases h1 : (nm.toList == []) with
  | false => simp [go_sem, h1]
  | true =>
    cases h2 : (lb.toList == []) with
    | false => simp [go_sem, h1, h2]
    | true =>
      cases h3 : (ty.toList == []) with
      | false => simp [go_sem, h1, h2, h3]
      | true =>
        cases h4 : (op == 0) with
        | false => simp [go_sem, h1, h2, h3, h4]
        | true =>
          cases h5 : (it == 0) with
          | false => simp [go_sem, h1, h2, h3, h4, h5]
          | true =>
            cases h6 : (tx.toList == []) with
            | false => simp [go_sem, h1, h2, h3, h4, h5, h6]
            | true => simp [go_sem, h1, h2, h3, h4, h5, h6]
end Go.Proofs.YtlocaalipjjnpaaDoor

namespace Go.Proofs.YtlocaalipjjnpaaDoor
open Go.RowKit

/-- The reference's keywords, where they lie. -/
def RKw (w : World) : Prop := ∀ j, j < 20 → w.cell? ⟨0, j, none⟩ = some (.string (kws.getD j ByteArray.empty))
theorem RKw.next {w w' : World} (h : RKw w) (hb : Below w.heap.size w w') : RKw w' := fun j hj => (hb.cell (p := ⟨0, j, none⟩) (World.block_lt_of_cell? w _ (h j hj))).trans (h j hj)

set_option maxRecDepth 100000 in
set_option maxHeartbeats 400000 in
theorem refKeyword_r (s : ByteArray) (w : World) (hc : RKw w) :
    Calls Tryd.prog 59 #[.string s] w fun e w' => e = .returned (.bool (kw s)) ∧ w = w' := by
  have HC : Hid (∀ j, j < 20 → w.cell? ⟨0, j, none⟩ = some (.string (kws.getD j ByteArray.empty))) := hc
  clear hc
  go_enter Tryd.func59, Tryd.ntmps59
  go_wp2
  go_loop [3] (fun i => ∃ k : Nat, k ≤ 20 ∧ i = .int .i64 (k : Int) ∧ Hid (∀ j, j < k → ((kws.getD j ByteArray.empty).data.toList == s.data.toList) = false)) (fun i => 20 - (intOf i).toNat)
  case atStart => exact ⟨0, by omega, rfl, fun j hj => by omega⟩
  case round =>
    obtain ⟨k, hk, rfl, hn⟩ := hrel
    by_cases hlt : k < 20
    · have hi := HC.out k hlt
      obtain ⟨x, hx⟩ : ∃ x, x = kws.getD k ByteArray.empty := ⟨_, rfl⟩
      rw [← hx] at hi
      have HX : Hid (x = kws.getD k ByteArray.empty) := hx
      clear hx
      go_wp2
      · have h1 : (x.toList == s.toList) = true := by assumption
        have hk1 : kw s = true := kw_some k hlt (by rw [← HX.out]; exact toL_eq' h1)
        rw [hk1]
        go_ret
        exact ⟨rfl, rfl⟩
      · have h1 : (x.toList == s.toList) = false := by assumption
        refine ⟨⟨k + 1, by omega, by go_num, fun j hj => ?_⟩, by simp [intOf]; omega⟩
        by_cases hjk : j < k
        · exact hn.out j hjk
        · obtain rfl : j = k := by omega
          rw [← HX.out]
          exact toL_ne' h1
    · obtain rfl : k = 20 := by omega
      have hk1 : kw s = false := kw_none hn.out
      have HK : Hid (kw s = false) := hk1
      clear hk1
      go_wp2
      rw [HK.out]
      go_ret
      exact ⟨rfl, rfl⟩

/-- May the byte stand at this place of a name? -/
def stands (k : Nat) (c : UInt8) : Bool := letterB c || (decide (0 < k) && (digitB c || ((c.toNat : Int) == 95)))
theorem name_stands (t : ByteArray) (h0 : 0 < t.size) (h1 : t.size ≤ 24) (h2 : kw t = false) (h : ∀ k, k < t.size → stands k (t.data.toList.getD k 0) = true) : nameS t = true := by
  unfold nameS
  rw [h2]
  have ha : letterB (t.data.toList.getD 0 0) = true := by have := h 0 h0; unfold stands at this; simpa using this
  rw [ha]
  simp only [h1, decide_true, Bool.not_false, Bool.and_self, Bool.true_and, List.all_eq_true]
  intro x hx
  obtain ⟨k, hk, rfl⟩ := List.getElem_of_mem hx
  have hk' : k < t.size := by rw [Lib.size_eq]; exact hk
  have := h k hk'
  rw [List.getD_eq_getElem?_getD, List.getElem?_eq_getElem hk] at this
  unfold stands at this
  unfold innerB
  simp only [Option.getD_some] at this
  revert this
  cases letterB (t.data.toList[k]) <;> cases digitB (t.data.toList[k]) <;> cases (((t.data.toList[k]).toNat : Int) == 95) <;> cases decide (0 < k) <;> simp
theorem stands_no (t : ByteArray) (k : Nat) (hk : k < t.size) (h : stands k (t.data.toList.getD k 0) = false) : nameS t = false := by
  have hk2 : k < t.data.toList.length := by rw [← Lib.size_eq]; exact hk
  unfold nameS
  cases h1 : letterB (t.data.toList.getD 0 0) with
  | false => simp
  | true =>
    have hk0 : 0 < k := by
      rcases Nat.eq_zero_or_pos k with rfl | h2
      · unfold stands at h; rw [h1] at h; simp at h
      · exact h2
    have : t.data.toList.all innerB = false := by
      rw [List.all_eq_false]
      refine ⟨t.data.toList[k], List.getElem_mem hk2, ?_⟩
      rw [List.getD_eq_getElem?_getD, List.getElem?_eq_getElem hk2] at h
      unfold stands at h
      unfold innerB
      simp only [Option.getD_some, hk0, decide_true, Bool.true_and] at h
      rw [Bool.or_assoc]
      simp only [h]
      decide
    rw [this]
    simp

set_option maxRecDepth 100000 in
set_option maxHeartbeats 1000000 in
theorem refName_any (t : ByteArray) (w : World) (hc : RKw w) (hs : t.size ≤ 140737488355328) :
    Calls Tryd.prog 40 #[.string t] w fun e w' => e = .returned (.bool (decide (0 < t.size) && nameS t)) ∧ w = w' := by
  obtain ⟨b, hb⟩ : ∃ b, (decide (0 < t.size) && nameS t) = b := ⟨_, rfl⟩
  have HB : Hid ((decide (0 < t.size) && nameS t) = b) := hb
  rw [hb]
  clear hb
  obtain ⟨q, hq⟩ : ∃ q, kw t = q := ⟨_, rfl⟩
  have HQ : Hid (kw t = q) := hq
  have HK : Hid (Calls Tryd.prog 59 #[.string t] w fun e w' => e = .returned (.bool q) ∧ w = w') := by
    have := refKeyword_r t w hc
    rwa [hq] at this
  clear hq hc
  go_enter Tryd.func40, Tryd.ntmps40
  by_cases he : t.size = 0
  · have e : t = ⟨#[]⟩ := by apply ByteArray.ext; exact Array.eq_empty_of_size_eq_zero he
    subst e
    have HF : b = false := by rw [← HB.out]; rfl
    subst HF
    clear HB
    go_wp2
    go_ret
    exact ⟨rfl, rfl⟩
  · have be2 : (t.toList == []) = false := by
      rw [beq_eq_false_iff_ne]
      intro e
      rw [Lib.toList_data] at e
      exact he (by rw [Lib.size_eq, e]; rfl)
    have h0 : 0 < t.size := by omega
    by_cases h24 : (24 : Int) < (t.size : Int)
    · have HF : b = false := by
        rw [← HB.out]
        unfold nameS
        have : ¬ t.size ≤ 24 := by omega
        simp [this]
      subst HF
      clear HB
      go_wp2
      go_ret
      exact ⟨rfl, rfl⟩
    · cases q with
      | true =>
        have HF : b = false := by
          rw [← HB.out]
          unfold nameS
          rw [HQ.out]
          simp
        subst HF
        clear HB
        go_wp2_with (first
          | (go_at_call 59; refine HK.out.mono ?_; rintro e w1 ⟨rfl, hw1⟩; subst hw1)
          | go_in)
        go_ret
        exact ⟨rfl, rfl⟩
      | false =>
        go_wp2_with (first
          | (go_at_call 59; refine HK.out.mono ?_; rintro e w1 ⟨rfl, hw1⟩; subst hw1)
          | go_in)
        go_loop [3] (fun i => ∃ k : Nat, k ≤ t.size ∧ i = .int .i64 (k : Int) ∧ Hid (∀ j, j < k → stands j (t.data.toList.getD j 0) = true)) (fun i => t.size - (intOf i).toNat)
        case atStart => exact ⟨0, by omega, rfl, fun j hj => by omega⟩
        case round =>
          obtain ⟨k, hk, rfl, hn⟩ := hrel
          by_cases hlt : k < t.size
          · obtain ⟨d, hd⟩ : ∃ d, t[k]'hlt = d := ⟨_, rfl⟩
            have HD : Hid (t.data.toList.getD k 0 = d) := (byte_at t k hlt).trans hd
            have hd8 := UInt8.toNat_lt d
            have hlt1 : (k : Int) < (t.size : Int) := by omega
            have hge : (0 : Int) ≤ (k : Int) := by omega
            by_cases hk0 : k = 0
            · subst hk0
              have hkb : Hid (t.data.toList.getD 0 0 = d) := HD
              go_wp2
              all_goals first
                | (have HG : stands 0 d = true := by
                     unfold stands letterB digitB
                     simp only [Bool.or_eq_true, Bool.and_eq_true, decide_eq_true_eq, beq_iff_eq]
                     simp_all
                     done
                   refine ⟨⟨0 + 1, by omega, by go_num, fun j hj => ?_⟩, by simp [intOf]; omega⟩
                   obtain rfl : j = 0 := by omega
                   rw [hkb.out]
                   exact HG)
                | (have HG : stands 0 d = true := by
                     unfold stands letterB digitB
                     simp only [Bool.or_eq_true, Bool.and_eq_true, decide_eq_true_eq, beq_iff_eq]
                     omega
                   refine ⟨⟨0 + 1, by omega, by go_num, fun j hj => ?_⟩, by simp [intOf]; omega⟩
                   obtain rfl : j = 0 := by omega
                   rw [hkb.out]
                   exact HG)
                | (have HG : stands 0 d = false := by
                     unfold stands letterB digitB
                     simp only [Bool.or_eq_false_iff, Bool.and_eq_false_iff, decide_eq_false_iff_not, beq_eq_false_iff_ne, ne_eq]
                     omega
                   have HF : b = false := by
                     rw [← HB.out, stands_no t 0 hlt (by rw [hkb.out]; exact HG)]
                     simp
                   subst HF
                   go_ret
                   exact ⟨rfl, rfl⟩)
            · have hk1 : ((k : Int) == 0) = false := by rw [beq_eq_false_iff_ne]; omega
              have hkp : 0 < k := by omega
              clear hk0
              have h95 : ((d.toNat : Int) = 95 ∧ ((d.toNat : Int) == 95) = true) ∨ (¬ (d.toNat : Int) = 95 ∧ ((d.toNat : Int) == 95) = false) := by
                by_cases h : (d.toNat : Int) = 95
                · exact .inl ⟨h, beq_iff_eq.2 h⟩
                · exact .inr ⟨h, beq_eq_false_iff_ne.2 h⟩
              rcases h95 with ⟨h95, hb95⟩ | ⟨h95, hb95⟩
              all_goals go_wp2
              all_goals first
                | (have HG : stands k d = true := by
                     unfold stands letterB digitB
                     simp only [Bool.or_eq_true, Bool.and_eq_true, decide_eq_true_eq, beq_iff_eq]
                     omega
                   refine ⟨⟨k + 1, by omega, by go_num, fun j hj => ?_⟩, by simp [intOf]; omega⟩
                   by_cases hjk : j < k
                   · exact hn.out j hjk
                   · obtain rfl : j = k := by omega
                     rw [HD.out]
                     exact HG)
                | (have HG : stands k d = false := by
                     unfold stands letterB digitB
                     simp only [Bool.or_eq_false_iff, Bool.and_eq_false_iff, decide_eq_false_iff_not, beq_eq_false_iff_ne, ne_eq]
                     omega
                   have HF : b = false := by
                     rw [← HB.out, stands_no t k hlt (by rw [HD.out]; exact HG)]
                     simp
                   subst HF
                   go_ret
                   exact ⟨rfl, rfl⟩)
                | (exfalso; simp_all; done)
                | (exfalso; simp_all; omega)
          · obtain rfl : k = t.size := by omega
            have HF : b = true := by
              rw [← HB.out, name_stands t h0 (by omega) HQ.out hn.out]
              simp [h0]
            subst HF
            clear HB
            go_wp2
            go_ret
            exact ⟨rfl, rfl⟩
end Go.Proofs.YtlocaalipjjnpaaDoor

namespace Go.Proofs.YtlocaalipjjnpaaDoor
open Go.RowKit

/-- What is left to be said of a type where k brackets are gone. -/
def tyR (k : Nat) (t : ByteArray) : Bool := decide (k ≤ 4) && typF (4 - k) t
theorem brac_base {t : ByteArray} (h : bracB t = true) : baseB t = false := by
  unfold bracB at h
  simp only [Bool.and_eq_true, decide_eq_true_eq, beq_iff_eq] at h
  obtain ⟨⟨_, h0⟩, _⟩ := h
  unfold baseB
  rw [toL]
  cases hl : t.data.toList with
  | nil => rfl
  | cons c r =>
    rw [hl] at h0
    simp at h0
    subst h0
    simp
theorem tyR_go (k : Nat) (t : ByteArray) (h : bracB t = true) : tyR k t = tyR (k + 1) (t.extract 1 (t.size - 1)) := by
  unfold tyR
  by_cases hk : k < 4
  · have := typ_go (3 - k) t h
    rw [show 3 - k + 1 = 4 - k by omega] at this
    rw [this, show 4 - (k + 1) = 3 - k by omega]
    simp [show k ≤ 4 by omega, show k + 1 ≤ 4 by omega]
  · by_cases h4 : k = 4
    · subst h4
      show (decide (4 ≤ 4) && baseB t) = _
      rw [brac_base h]
      simp
    · simp [show ¬ k ≤ 4 by omega, show ¬ k + 1 ≤ 4 by omega]
theorem tyR_stop (k : Nat) (t : ByteArray) (h : bracB t = false) : tyR k t = (decide ((k : Int) ≤ 4) && baseB t) := by
  unfold tyR
  rw [typ_stop _ t h]
  by_cases hk : k ≤ 4
  · simp [hk, show (k : Int) ≤ 4 by omega]
  · simp [hk, show ¬ (k : Int) ≤ 4 by omega]

set_option maxRecDepth 100000 in
set_option maxHeartbeats 1000000 in
theorem refType_any (t0 : ByteArray) (w : World) (hs : t0.size ≤ 140737488355328) :
    Calls Tryd.prog 41 #[.string t0] w fun e w' => e = .returned (.bool (typeS t0)) ∧ w = w' := by
  obtain ⟨b, hb⟩ : ∃ b, typeS t0 = b := ⟨_, rfl⟩
  have HB : Hid (tyR 0 t0 = b) := by show tyR 0 t0 = b; rw [← hb]; unfold tyR typeS; simp
  rw [hb]
  clear hb
  go_enter Tryd.func41, Tryd.ntmps41
  go_wp2
  go_loop [0, 3] (fun v i => ∃ (t : ByteArray) (k : Nat), v = .string t ∧ i = .int .i64 (k : Int) ∧ t.size + k ≤ t0.size ∧ Hid (tyR k t = b)) (fun v _ => match v with | .string x => x.size | _ => 0)
  case atStart => exact ⟨t0, 0, rfl, rfl, by omega, HB⟩
  case round =>
    obtain ⟨t, k, rfl, rfl, hts, ht⟩ := hrel
    clear HB
    cases hbr : bracB t with
    | true =>
      have h2 := hbr
      unfold bracB at h2
      simp only [Bool.and_eq_true, decide_eq_true_eq, beq_iff_eq] at h2
      obtain ⟨⟨z2, z0⟩, z1⟩ := h2
      rw [byte_at t 0 (by omega)] at z0
      rw [byte_at t (t.size - 1) (by omega)] at z1
      have y0 : ((t[0]'(by omega)).toNat : Int) = 91 := by rw [z0]; rfl
      have y1 : ((t[t.size - 1]'(by omega)).toNat : Int) = 93 := by rw [z1]; rfl
      have e1 : ((t.size : Int) - 1) = ((t.size - 1 : Nat) : Int) := by omega
      have e2 : ((t.size : Int) - 1).toNat = t.size - 1 := by omega
      have HT : Hid (tyR (k + 1) (t.extract 1 (t.size - 1)) = b) := (tyR_go k t hbr).symm.trans ht.out
      have hz : (t.extract 1 (t.size - 1)).size + (k + 1) ≤ t0.size := by simp; omega
      have q1 : (1 : Int) ≤ ((t.size - 1 : Nat) : Int) := by omega
      have q2 : ((t.size - 1 : Nat) : Int) ≤ (t.size : Int) := by omega
      clear ht hbr z0 z1
      go_wp2
      exact ⟨⟨t.extract 1 (t.size - 1), k + 1, rfl, by go_num, hz, HT⟩, by simp; omega⟩
    | false =>
      have hbase : (decide ((k : Int) ≤ 4) && baseB t) = b := by rw [← tyR_stop k t hbr]; exact ht.out
      have HBS : Hid ((decide ((k : Int) ≤ 4) && baseB t) = b) := hbase
      clear ht
      have hc : t.size < 2 ∨ (∃ h : 2 ≤ t.size, ((t[0]'(by omega)).toNat : Int) ≠ 91) ∨ (∃ h : 2 ≤ t.size, ((t[0]'(by omega)).toNat : Int) = 91 ∧ ((t[t.size - 1]'(by omega)).toNat : Int) ≠ 93) := by
        by_cases z2 : t.size < 2
        · exact .inl z2
        · unfold bracB at hbr
          rw [byte_at t 0 (by omega), byte_at t (t.size - 1) (by omega)] at hbr
          by_cases z0 : ((t[0]'(by omega)).toNat : Int) = 91
          · refine .inr (.inr ⟨by omega, z0, fun z1 => ?_⟩)
            have y0 : t[0]'(by omega) = 91 := UInt8.toNat_inj.1 (by have : (91 : UInt8).toNat = 91 := rfl; omega)
            have y1 : t[t.size - 1]'(by omega) = 93 := UInt8.toNat_inj.1 (by have : (93 : UInt8).toNat = 93 := rfl; omega)
            have y2 : 2 ≤ t.size := by omega
            rw [y0, y1] at hbr
            simp [y2] at hbr
          · exact .inr (.inl ⟨by omega, z0⟩)
      clear hbr hbase
      have e1 : ((t.size : Int) - 1) = ((t.size - 1 : Nat) : Int) ∨ t.size = 0 := by omega
      by_cases hk4 : (k : Int) ≤ 4
      rotate_left
      · have hbf : b = false := by rw [← HBS.out]; simp [hk4]
        subst hbf
        clear HBS
        rcases hc with hc | ⟨h2, hc⟩ | ⟨h2, y0, hc⟩
        · go_wp2
          go_ret
          exact ⟨rfl, rfl⟩
        · go_wp2
          go_ret
          exact ⟨rfl, rfl⟩
        · have e1 : ((t.size : Int) - 1) = ((t.size - 1 : Nat) : Int) := by omega
          have e2 : ((t.size : Int) - 1).toNat = t.size - 1 := by omega
          go_wp2
          go_ret
          exact ⟨rfl, rfl⟩
      clear e1
      rcases hc with hc | ⟨h2, hc⟩ | ⟨h2, y0, hc⟩
      · go_wp2
        all_goals first
          | (rw [← HBS.out]
             go_ret
             refine ⟨?_, rfl⟩
             unfold baseB
             simp [*]
             done)
          | (exfalso; simp_all)
      · go_wp2
        all_goals first
          | (rw [← HBS.out]
             go_ret
             refine ⟨?_, rfl⟩
             unfold baseB
             simp [*]
             done)
          | (exfalso; simp_all)
      · have e1 : ((t.size : Int) - 1) = ((t.size - 1 : Nat) : Int) := by omega
        have e2 : ((t.size : Int) - 1).toNat = t.size - 1 := by omega
        go_wp2
        all_goals first
          | (rw [← HBS.out]
             go_ret
             refine ⟨?_, rfl⟩
             unfold baseB
             simp [*]
             done)
          | (exfalso; simp_all)
end Go.Proofs.YtlocaalipjjnpaaDoor
