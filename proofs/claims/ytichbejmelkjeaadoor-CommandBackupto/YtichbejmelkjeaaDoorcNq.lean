import Derived.Test.YtichbejmelkjeaaDoorcWr
namespace Go.Proofs.YtichbejmelkjeaaDoor
open Go.RowKit

def eq8 (k0 p0 l0 : Int) (n0 d0 : ByteArray) (o0 : Bool) (m0 : Int) (t0 : ByteArray) (k1 p1 l1 : Int) (n1 d1 : ByteArray) (o1 : Bool) (m1 : Int) (t1 : ByteArray) : Bool := ((((((((k0 == k1) && (p0 == p1)) && (l0 == l1)) && (n0.toList == n1.toList)) && (d0.toList == d1.toList)) && (o0 == o1)) && (m0 == m1)) && (t0.toList == t1.toList))
set_option maxRecDepth 100000 in
set_option maxHeartbeats 2000000 in
theorem neq8 (k0 p0 l0 : Int) (n0 d0 : ByteArray) (o0 : Bool) (m0 : Int) (t0 : ByteArray) (k1 p1 l1 : Int) (n1 d1 : ByteArray) (o1 : Bool) (m1 : Int) (t1 : ByteArray) : ∀ w : World,
    (binOp BinOp.neq 39 (.agg #[.int .i64 k0, .int .i64 p0, .int .i64 l0, .string n0, .string d0, .bool o0, .int .i64 m0, .string t0]) (.agg #[.int .i64 k1, .int .i64 p1, .int .i64 l1, .string n1, .string d1, .bool o1, .int .i64 m1, .string t1])).run Tryd.prog w = .ok (.bool (!eq8 k0 p0 l0 n0 d0 o0 m0 t0 k1 p1 l1 n1 d1 o1 m1 t1)) w := by
  intro w
  unfold eq8
  cases h0 : (k0 == k1) with
  | false => simp [go_sem, h0]
  | true =>
    cases h1 : (p0 == p1) with
    | false => simp [go_sem, h0, h1]
    | true =>
      cases h2 : (l0 == l1) with
      | false => simp [go_sem, h0, h1, h2]
      | true =>
        cases h3 : (n0.toList == n1.toList) with
        | false => simp [go_sem, h0, h1, h2, h3]
        | true =>
          cases h4 : (d0.toList == d1.toList) with
          | false => simp [go_sem, h0, h1, h2, h3, h4]
          | true =>
            cases h5 : (o0 == o1) with
            | false => simp [go_sem, h0, h1, h2, h3, h4, h5]
            | true =>
              cases h6 : (m0 == m1) with
              | false => simp [go_sem, h0, h1, h2, h3, h4, h5, h6]
              | true =>
                cases h7 : (t0.toList == t1.toList) with
                | false => simp [go_sem, h0, h1, h2, h3, h4, h5, h6, h7]
                | true =>
                  simp [go_sem, h0, h1, h2, h3, h4, h5, h6, h7]
theorem eq8_iff (k0 p0 l0 : Int) (n0 d0 : ByteArray) (o0 : Bool) (m0 : Int) (t0 : ByteArray) (k1 p1 l1 : Int) (n1 d1 : ByteArray) (o1 : Bool) (m1 : Int) (t1 : ByteArray) : eq8 k0 p0 l0 n0 d0 o0 m0 t0 k1 p1 l1 n1 d1 o1 m1 t1 = true ↔ (⟨k0, p0, l0, n0.data.toList, d0.data.toList, o0, m0, t0.data.toList⟩ : Cm) = ⟨k1, p1, l1, n1.data.toList, d1.data.toList, o1, m1, t1.data.toList⟩ := by
  unfold eq8
  simp only [Bool.and_eq_true, beq_iff_eq, Lx.toL, Cm.mk.injEq, and_assoc]

end Go.Proofs.YtichbejmelkjeaaDoor
