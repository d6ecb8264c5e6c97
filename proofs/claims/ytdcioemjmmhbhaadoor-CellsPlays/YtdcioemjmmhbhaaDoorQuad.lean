import Derived.Test.YtdcioemjmmhbhaaDoorLoad
import Derived.Test.YtdcioemjmmhbhaaDoorClone
import Derived.Test.YtdcioemjmmhbhaaDoorTakes
namespace Go.Proofs.YtdcioemjmmhbhaaDoor
open Go.RowKit

def rngA (A : Hp) : Prop := ∀ a ∈ A, ∀ v ∈ a.2, inR v.2.1
theorem rng_take {A : Hp} {lim : Nat} {s : Sp} (h : rngA A) (hx : inR s.x.2.1) : rngA (takeS A lim s).1 := by
  unfold takeS
  split
  · unfold makeH
    split
    · exact h
    split
    · exact h
    split
    · exact h
    · intro a ha v hv
      rcases List.mem_append.1 ha with q | q
      · exact h a q v hv
      · obtain rfl := List.mem_singleton.1 q
        obtain rfl := List.eq_of_mem_replicate hv
        exact ⟨by show (-9223372036854775808 : Int) ≤ 0; decide, by show (0 : Int) ≤ 9223372036854775807; decide⟩
  split
  · unfold putH
    split
    · split
      · exact h
      · intro a ha v hv
        obtain ⟨i, hi, e⟩ := List.mem_iff_getElem.1 ha
        have hi' : i < A.length := by simpa using hi
        have e2 : (A.modify (s.r.2.1.toNat - 1) fun a => (a.1, a.2.set s.n.toNat s.x))[i]? = some a := by rw [List.getElem?_eq_getElem hi, e]
        rw [List.getElem?_modify, List.getElem?_eq_getElem hi'] at e2
        have hmem := List.getElem_mem hi'
        simp only [Option.map_eq_map, Option.map_some, Option.some.injEq] at e2
        split at e2
        · subst e2
          rcases List.mem_or_eq_of_mem_set hv with q | rfl
          · exact h _ hmem v q
          · exact hx
        · subst e2
          exact h _ hmem v hv
    · exact h
  · exact h
theorem HeapOf.kinds {w : World} {p lim : Nat} {A : Hp} {F : Nat → Prop} (h : HeapOf w p lim A F) : usedS A ≤ lim ∧ ∀ a ∈ A, 1 ≤ a.1 ∧ a.1 ≤ 4 := by
  obtain ⟨As, rq, rn, rg, ro, av, rfl, h⟩ := h
  refine ⟨h.le, fun a ha => ?_⟩
  unfold absA at ha
  obtain ⟨b, hb, rfl⟩ := List.mem_map.1 ha
  exact (h.ok b hb).1
theorem HeapOf.okH {w : World} {p lim : Nat} {A : Hp} {F : Nat → Prop} (h : HeapOf w p lim A F) (hr : rngA A) : okH A A.length := fun a ha => ⟨h.kinds.2 a ha, fun v hv => ⟨h.ok a ha v hv, hr a ha v hv⟩⟩

/-- Four heaps that share nothing. -/
def Quad (w : World) (B lim p1 p2 p3 p4 : Nat) (A1 A2 A3 A4 : Hp) : Prop := ∃ F1 F2 F3 F4 : Nat → Prop, (HeapOf w p1 lim A1 F1 ∧ HeapOf w p2 lim A2 F2 ∧ HeapOf w p3 lim A3 F3 ∧ HeapOf w p4 lim A4 F4) ∧
  ((∀ b, F1 b → B ≤ b ∧ ¬ F2 b ∧ ¬ F3 b ∧ ¬ F4 b) ∧ (∀ b, F2 b → B ≤ b ∧ ¬ F1 b ∧ ¬ F3 b ∧ ¬ F4 b) ∧ (∀ b, F3 b → B ≤ b ∧ ¬ F1 b ∧ ¬ F2 b ∧ ¬ F4 b) ∧ (∀ b, F4 b → B ≤ b ∧ ¬ F1 b ∧ ¬ F2 b ∧ ¬ F3 b))
theorem Quad.next {w w' : World} {B lim p1 p2 p3 p4 : Nat} {A1 A2 A3 A4 : Hp} (h : Quad w B lim p1 p2 p3 p4 A1 A2 A3 A4) (k : Below w.heap.size w w') : Quad w' B lim p1 p2 p3 p4 A1 A2 A3 A4 := by
  obtain ⟨F1, F2, F3, F4, ⟨h1, h2, h3, h4⟩, q⟩ := h
  exact ⟨F1, F2, F3, F4, ⟨h1.next k, h2.next k, h3.next k, h4.next k⟩, q⟩
theorem quad_take1 {w : World} {B lim p1 p2 p3 p4 : Nat} {A1 A2 A3 A4 : Hp} (h : Quad w B lim p1 p2 p3 p4 A1 A2 A3 A4) (hz : Zt w) (hB : 0 < B) (hBw : B ≤ w.heap.size) (dop on kd n : Int) (rk rn : Int) (rs : ByteArray) (xk xn : Int) (xs : ByteArray) (hrs : rs.size ≤ 9223372036854775807) (hxs : xs.size ≤ 9223372036854775807) :
    Calls Tryd.prog 15 #[.pointer (some ⟨p1, 0, none⟩), .agg #[.int .i64 dop, .int .i64 on, .int .i64 kd, .int .i64 n, .int .i64 rk, .int .i64 rn, .string rs, .int .i64 xk, .int .i64 xn, .string xs]] w fun e w' => e = .returned (.int .i64 (takeS A1 lim ⟨dop, on, kd, n, (rk, rn, rs), (xk, xn, xs)⟩).2) ∧ Hid (Quad w' B lim p1 p2 p3 p4 (takeS A1 lim ⟨dop, on, kd, n, (rk, rn, rs), (xk, xn, xs)⟩).1 A2 A3 A4) ∧ Below B w w' := by
  obtain ⟨F1, F2, F3, F4, ⟨h1, h2, h3, h4⟩, q1, q2, q3, q4⟩ := h
  refine (takes_any h1 hz (fun e => by have := (q1 0 e).1; omega) dop on kd n rk rn rs xk xn xs hrs hxs).mono fun e w' ⟨r1, F', r2, r3, r4⟩ => ⟨r1, ?_, r3.below (fun k hk => (q1 k hk).1) hBw⟩
  have n2 := h2.kept r3 (fun b hb => (q2 b hb).2.1)
  have n3 := h3.kept r3 (fun b hb => (q3 b hb).2.1)
  have n4 := h4.kept r3 (fun b hb => (q4 b hb).2.1)
  refine ⟨F', F2, F3, F4, ⟨r2, n2, n3, n4⟩, ?_, ?_, ?_, ?_⟩
  · intro b hb
    rcases r4 b hb with s | s
    · exact q1 b s
    · refine ⟨by omega, fun e => ?_, fun e => ?_, fun e => ?_⟩
      · have := h2.flt b e
        omega
      · have := h3.flt b e
        omega
      · have := h4.flt b e
        omega
  · intro b hb
    obtain ⟨t1, t2, t3, t4⟩ := q2 b hb
    have hlt := h2.flt b hb
    refine ⟨t1, fun e => by rcases r4 b e with s | s; exact t2 s; omega, t3, t4⟩
  · intro b hb
    obtain ⟨t1, t2, t3, t4⟩ := q3 b hb
    have hlt := h3.flt b hb
    refine ⟨t1, fun e => by rcases r4 b e with s | s; exact t2 s; omega, t3, t4⟩
  · intro b hb
    obtain ⟨t1, t2, t3, t4⟩ := q4 b hb
    have hlt := h4.flt b hb
    refine ⟨t1, fun e => by rcases r4 b e with s | s; exact t2 s; omega, t3, t4⟩
theorem quad_take2 {w : World} {B lim p1 p2 p3 p4 : Nat} {A1 A2 A3 A4 : Hp} (h : Quad w B lim p1 p2 p3 p4 A1 A2 A3 A4) (hz : Zt w) (hB : 0 < B) (hBw : B ≤ w.heap.size) (dop on kd n : Int) (rk rn : Int) (rs : ByteArray) (xk xn : Int) (xs : ByteArray) (hrs : rs.size ≤ 9223372036854775807) (hxs : xs.size ≤ 9223372036854775807) :
    Calls Tryd.prog 15 #[.pointer (some ⟨p2, 0, none⟩), .agg #[.int .i64 dop, .int .i64 on, .int .i64 kd, .int .i64 n, .int .i64 rk, .int .i64 rn, .string rs, .int .i64 xk, .int .i64 xn, .string xs]] w fun e w' => e = .returned (.int .i64 (takeS A2 lim ⟨dop, on, kd, n, (rk, rn, rs), (xk, xn, xs)⟩).2) ∧ Hid (Quad w' B lim p1 p2 p3 p4 A1 (takeS A2 lim ⟨dop, on, kd, n, (rk, rn, rs), (xk, xn, xs)⟩).1 A3 A4) ∧ Below B w w' := by
  obtain ⟨F1, F2, F3, F4, ⟨h1, h2, h3, h4⟩, q1, q2, q3, q4⟩ := h
  refine (takes_any h2 hz (fun e => by have := (q2 0 e).1; omega) dop on kd n rk rn rs xk xn xs hrs hxs).mono fun e w' ⟨r1, F', r2, r3, r4⟩ => ⟨r1, ?_, r3.below (fun k hk => (q2 k hk).1) hBw⟩
  have n1 := h1.kept r3 (fun b hb => (q1 b hb).2.1)
  have n3 := h3.kept r3 (fun b hb => (q3 b hb).2.2.1)
  have n4 := h4.kept r3 (fun b hb => (q4 b hb).2.2.1)
  refine ⟨F1, F', F3, F4, ⟨n1, r2, n3, n4⟩, ?_, ?_, ?_, ?_⟩
  · intro b hb
    obtain ⟨t1, t2, t3, t4⟩ := q1 b hb
    have hlt := h1.flt b hb
    refine ⟨t1, fun e => by rcases r4 b e with s | s; exact t2 s; omega, t3, t4⟩
  · intro b hb
    rcases r4 b hb with s | s
    · exact q2 b s
    · refine ⟨by omega, fun e => ?_, fun e => ?_, fun e => ?_⟩
      · have := h1.flt b e
        omega
      · have := h3.flt b e
        omega
      · have := h4.flt b e
        omega
  · intro b hb
    obtain ⟨t1, t2, t3, t4⟩ := q3 b hb
    have hlt := h3.flt b hb
    refine ⟨t1, t2, fun e => by rcases r4 b e with s | s; exact t3 s; omega, t4⟩
  · intro b hb
    obtain ⟨t1, t2, t3, t4⟩ := q4 b hb
    have hlt := h4.flt b hb
    refine ⟨t1, t2, fun e => by rcases r4 b e with s | s; exact t3 s; omega, t4⟩
theorem quad_take3 {w : World} {B lim p1 p2 p3 p4 : Nat} {A1 A2 A3 A4 : Hp} (h : Quad w B lim p1 p2 p3 p4 A1 A2 A3 A4) (hz : Zt w) (hB : 0 < B) (hBw : B ≤ w.heap.size) (dop on kd n : Int) (rk rn : Int) (rs : ByteArray) (xk xn : Int) (xs : ByteArray) (hrs : rs.size ≤ 9223372036854775807) (hxs : xs.size ≤ 9223372036854775807) :
    Calls Tryd.prog 15 #[.pointer (some ⟨p3, 0, none⟩), .agg #[.int .i64 dop, .int .i64 on, .int .i64 kd, .int .i64 n, .int .i64 rk, .int .i64 rn, .string rs, .int .i64 xk, .int .i64 xn, .string xs]] w fun e w' => e = .returned (.int .i64 (takeS A3 lim ⟨dop, on, kd, n, (rk, rn, rs), (xk, xn, xs)⟩).2) ∧ Hid (Quad w' B lim p1 p2 p3 p4 A1 A2 (takeS A3 lim ⟨dop, on, kd, n, (rk, rn, rs), (xk, xn, xs)⟩).1 A4) ∧ Below B w w' := by
  obtain ⟨F1, F2, F3, F4, ⟨h1, h2, h3, h4⟩, q1, q2, q3, q4⟩ := h
  refine (takes_any h3 hz (fun e => by have := (q3 0 e).1; omega) dop on kd n rk rn rs xk xn xs hrs hxs).mono fun e w' ⟨r1, F', r2, r3, r4⟩ => ⟨r1, ?_, r3.below (fun k hk => (q3 k hk).1) hBw⟩
  have n1 := h1.kept r3 (fun b hb => (q1 b hb).2.2.1)
  have n2 := h2.kept r3 (fun b hb => (q2 b hb).2.2.1)
  have n4 := h4.kept r3 (fun b hb => (q4 b hb).2.2.2)
  refine ⟨F1, F2, F', F4, ⟨n1, n2, r2, n4⟩, ?_, ?_, ?_, ?_⟩
  · intro b hb
    obtain ⟨t1, t2, t3, t4⟩ := q1 b hb
    have hlt := h1.flt b hb
    refine ⟨t1, t2, fun e => by rcases r4 b e with s | s; exact t3 s; omega, t4⟩
  · intro b hb
    obtain ⟨t1, t2, t3, t4⟩ := q2 b hb
    have hlt := h2.flt b hb
    refine ⟨t1, t2, fun e => by rcases r4 b e with s | s; exact t3 s; omega, t4⟩
  · intro b hb
    rcases r4 b hb with s | s
    · exact q3 b s
    · refine ⟨by omega, fun e => ?_, fun e => ?_, fun e => ?_⟩
      · have := h1.flt b e
        omega
      · have := h2.flt b e
        omega
      · have := h4.flt b e
        omega
  · intro b hb
    obtain ⟨t1, t2, t3, t4⟩ := q4 b hb
    have hlt := h4.flt b hb
    refine ⟨t1, t2, t3, fun e => by rcases r4 b e with s | s; exact t4 s; omega⟩
end Go.Proofs.YtdcioemjmmhbhaaDoor
