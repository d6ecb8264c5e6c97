import Derived.Test.YtljhobjgofhldaaDoordBd
import Derived.Test.YtljhobjgofhldaaDoordShow
namespace Go.Proofs.YtljhobjgofhldaaDoor
open Go.RowKit

abbrev V := Int × Int × ByteArray
/-- What Show writes of a value. -/
def shL (v : V) : List UInt8 := (showS v.1 v.2.1 v.2.2).data.toList
/-- Is it a reference to one of so many arrays? -/
def hasS (m : Nat) (v : V) : Bool := (v.1 == 4 && okV v.1 v.2.1 v.2.2) && decide (v.2.1 < (m : Int))
/-- The first elements, with what stands between them. -/
def jp (f : V → List UInt8) (l : List V) : Nat → List UInt8
  | 0 => []
  | i + 1 => jp f l i ++ (if 0 < i then [44, 32] else []) ++ f (l.getD i (0, 0, e0))
/-- What Deep writes: so many arrays deep. -/
def dpS (Ls : List (List V)) : Nat → V → List UInt8
  | 0, v => shL v
  | d + 1, v => if hasS Ls.length v = true then [91] ++ jp (dpS Ls d) (Ls.getD v.2.1.toNat []) (min (Ls.getD v.2.1.toNat []).length 16) ++ (if 16 < (Ls.getD v.2.1.toNat []).length then [44, 32, 46, 46] else []) ++ [93] else shL v
/-- A value that may come: its integer is one, its text lies in memory. -/
def vIn (v : V) : Prop := (-9223372036854775808 ≤ v.2.1 ∧ v.2.1 ≤ 9223372036854775807) ∧ v.2.2.size ≤ 9223372036854775807
/-- Lists of values below B, by a slice of slices. -/
def ArrAt (w : World) (B : Nat) (q : Option Addr) (Ls : List (List V)) : Prop :=
  ∀ n (hn : n < Ls.length), ∃ g o p c, q = some ⟨g, o, none⟩ ∧ g < B ∧ w.cell? ⟨g, o + n, none⟩ = some (.slice p Ls[n].length c) ∧ Ls[n].length ≤ c ∧
    ∀ j (hj : j < Ls[n].length), ∃ b r, p = some ⟨b, r, none⟩ ∧ b < B ∧ vIn Ls[n][j] ∧ w.cell? ⟨b, r + 3 * j, none⟩ = some (.int .i64 Ls[n][j].1) ∧ w.cell? ⟨b, r + 3 * j + 1, none⟩ = some (.int .i64 Ls[n][j].2.1) ∧ w.cell? ⟨b, r + 3 * j + 2, none⟩ = some (.string Ls[n][j].2.2)
theorem ArrAt.below {w w' : World} {B : Nat} {q : Option Addr} {Ls : List (List V)} (h : ArrAt w B q Ls) (hb : Below B w w') : ArrAt w' B q Ls := fun n hn => by
  obtain ⟨g, o, p, c, h1, h2, h3, h4, h5⟩ := h n hn
  refine ⟨g, o, p, c, h1, h2, (hb.cell (p := ⟨g, o + n, none⟩) h2).trans h3, h4, fun j hj => ?_⟩
  obtain ⟨b, r, k1, k2, k3, k4, k5, k6⟩ := h5 j hj
  exact ⟨b, r, k1, k2, k3, (hb.cell (p := ⟨b, r + 3 * j, none⟩) k2).trans k4, (hb.cell (p := ⟨b, r + 3 * j + 1, none⟩) k2).trans k5, (hb.cell (p := ⟨b, r + 3 * j + 2, none⟩) k2).trans k6⟩
set_option maxRecDepth 100000 in
set_option maxHeartbeats 1000000 in
theorem has_any (q : Option Addr) (m cq : Nat) (v : V) (w : World) (hv : vIn v) :
    Calls Tryd.prog 15 #[.slice q m cq, .agg #[.int .i64 v.1, .int .i64 v.2.1, .string v.2.2]] w fun e w' => e = .returned (.bool (hasS m v)) ∧ Below w.heap.size w w' := by
  obtain ⟨k, n, s⟩ := v
  have B1 : Below w.heap.size w (w.alloc (.cells #[.int .i64 k, .int .i64 n, .string s] 26)) := (Below.refl _ w).alloc (Nat.le_refl _) _
  have m0 := Box3.new w k n s 26
  have cv := fun W : World => valid_any k n s W hv.2
  by_cases h4 : k = 4
  case neg =>
    have h4' : (k == 4) = false := by simpa using h4
    obtain ⟨⟨⟨x0, f0⟩, ⟨x1, f1⟩⟩, x2, f2⟩ := id m0
    go_enter Tryd.func15, Tryd.ntmps15
    go_wp2_with fail
    go_ret
    exact ⟨by simp [hasS, h4'], B1⟩
  subst h4
  cases ho : okV 4 n s with
  | false =>
    rw [ho] at cv
    obtain ⟨⟨⟨x0, f0⟩, ⟨x1, f1⟩⟩, x2, f2⟩ := id m0
    go_enter Tryd.func15, Tryd.ntmps15
    go_wp2_with (go_at_call 23; refine (cv _).mono ?_; rintro e w1 ⟨rfl, hb⟩)
    go_ret
    exact ⟨by simp [hasS, ho], B1.trans (hb.mono B1.size)⟩
  | true =>
    rw [ho] at cv
    obtain ⟨⟨⟨x0, f0⟩, ⟨x1, f1⟩⟩, x2, f2⟩ := id m0
    go_enter Tryd.func15, Tryd.ntmps15
    go_wp2_with (go_at_call 23; refine (cv _).mono ?_; rintro e w1 ⟨rfl, hb⟩; obtain ⟨⟨⟨y0, -⟩, ⟨y1, -⟩⟩, y2, -⟩ := m0.below hb (by simp))
    go_ret
    exact ⟨by simp [hasS, ho], B1.trans (hb.mono B1.size)⟩
set_option maxRecDepth 100000 in
set_option maxHeartbeats 1000000 in
theorem list_any {q : Option Addr} {cq B : Nat} {Ls : List (List V)} {v : V} {w : World} (hA : ArrAt w B q Ls) (h0 : 0 ≤ v.2.1) (hn : v.2.1.toNat < Ls.length) (hB : B ≤ w.heap.size) :
    Calls Tryd.prog 18 #[.slice q Ls.length cq, .agg #[.int .i64 v.1, .int .i64 v.2.1, .string v.2.2]] w fun e w' => (∃ p c, e = .returned (.slice p Ls[v.2.1.toNat].length c) ∧ Ls[v.2.1.toNat].length ≤ c ∧ Hid (∀ j (hj : j < Ls[v.2.1.toNat].length), ∃ b r, p = some ⟨b, r, none⟩ ∧ b < B ∧ vIn Ls[v.2.1.toNat][j] ∧ w.cell? ⟨b, r + 3 * j, none⟩ = some (.int .i64 Ls[v.2.1.toNat][j].1) ∧ w.cell? ⟨b, r + 3 * j + 1, none⟩ = some (.int .i64 Ls[v.2.1.toNat][j].2.1) ∧ w.cell? ⟨b, r + 3 * j + 2, none⟩ = some (.string Ls[v.2.1.toNat][j].2.2))) ∧ Below w.heap.size w w' := by
  obtain ⟨k, n, s⟩ := v
  obtain ⟨i, rfl⟩ : ∃ i : Nat, n = (i : Int) := ⟨n.toNat, by simp at h0; omega⟩
  simp only [Int.toNat_natCast] at hn ⊢
  have B1 : Below w.heap.size w (w.alloc (.cells #[.int .i64 k, .int .i64 (i : Int), .string s] 26)) := (Below.refl _ w).alloc (Nat.le_refl _) _
  obtain ⟨⟨⟨x0, f0⟩, ⟨x1, f1⟩⟩, x2, f2⟩ := Box3.new w k (i : Int) s 26
  obtain ⟨g, o, p, c, rfl, h2, h3, h4, h5⟩ := hA i hn
  have H5 : Hid _ := h5
  have h3' := (B1.cell (p := ⟨g, o + i, none⟩) (by show g < w.heap.size; omega)).trans h3
  have hi : (i : Int) < (Ls.length : Int) := Int.ofNat_lt.2 hn
  have hi0 : (0 : Int) ≤ (i : Int) := Int.natCast_nonneg _
  clear h5 hA
  go_enter Tryd.func18, Tryd.ntmps18
  go_wp2
  go_ret
  exact ⟨⟨p, c, rfl, h4, H5⟩, B1⟩
end Go.Proofs.YtljhobjgofhldaaDoor
