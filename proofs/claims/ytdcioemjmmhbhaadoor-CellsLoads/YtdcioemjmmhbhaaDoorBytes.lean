import Derived.Test.YtdcioemjmmhbhaaDoorBook
import Derived.Lib.ConvBytes
import Derived.Lib.AppendStr
import Derived.Laws.IdiomStrings
import Derived.Lib.SmallJoins
namespace Go.Proofs.YtdcioemjmmhbhaaDoor
open Go.RowKit

def bv (l : List UInt8) : List Value := l.map fun c => Value.int .u8 (c.toNat : Int)
theorem bv_app (a b : List UInt8) : bv (a ++ b) = bv a ++ bv b := List.map_append
theorem bv_len (a : List UInt8) : (bv a).length = a.length := List.length_map ..
theorem bv_one (l : List UInt8) : ∀ u ∈ bv l, u.oneCell' = true := by
  intro u hu
  obtain ⟨c, _, rfl⟩ := List.mem_map.1 hu
  rfl
theorem info5 : (Tryd.prog.info? 5).map (fun i => (i.zero, i.size, i.bytes)) = some (some (.int .u8 0), 1, 1) := by kernel_rfl
/-- The lowest byte of a number. -/
def byteOf (n : Int) : UInt8 := UInt8.ofNat (n % 256).toNat
theorem byteOf_nat (n : Int) : ((byteOf n).toNat : Int) = n % 256 := by
  unfold byteOf
  rw [UInt8.toNat_ofNat']
  omega
/-- A number's lowest bytes, the highest of them first. -/
def numB (n : Int) : Nat → List UInt8
  | 0 => []
  | k + 1 => byteOf (n / 2 ^ (8 * k)) :: numB n k
theorem numB_len (n : Int) : ∀ k, (numB n k).length = k
  | 0 => rfl
  | k + 1 => by rw [numB, List.length_cons, numB_len n k]

/-- A row of bytes that was lengthened: nothing else has turned. -/
structure Grew (w w' : World) (base : Nat) (v v' : Value) (n : Nat) (l : List UInt8) : Prop where
  own : w'.ownsRow base 5 1 v' n (bv l)
  kp : Kp (fun b => v.ownBlock = some b) w w'
  sub : ∀ g, v'.ownBlock = some g → v.ownBlock = some g ∨ w.heap.size ≤ g
theorem Grew.step {w wr w3 : World} {base : Nat} {v b v' : Value} {n n' : Nat} {l l' : List UInt8} (h : Grew w wr base v b n l) (C : Obj) (hg : (wr.alloc C).grownBy w3 b.ownBlock) (hv : v'.ownBlock = b.ownBlock ∨ v'.ownBlock = some (wr.heap.size + 1)) (ho : w3.ownsRow base 5 1 v' n' (bv l')) : Grew w w3 base v v' n' l' :=
  ⟨ho, (h.kp.alloc C).grown hg (fun k hk => h.sub k hk), fun g hg' => by
    rcases hv with q | q
    · exact h.sub g (q ▸ hg')
    · rw [q] at hg'
      cases hg'
      have := h.kp.size
      exact .inr (by omega)⟩
theorem Grew.trans {w w1 w2 : World} {base : Nat} {v v1 v2 : Value} {n n' : Nat} {l l' : List UInt8} (h : Grew w w1 base v v1 n l) (k : Grew w1 w2 base v1 v2 n' l') : Grew w w2 base v v2 n' l' :=
  ⟨k.own, h.kp.trans k.kp (fun i hi hv => by rcases h.sub i hv with q | q; exact q; omega), fun g hg => by
    rcases k.sub g hg with q | q
    · exact h.sub g q
    · have := h.kp.size
      exact .inr (by omega)⟩
theorem Grew.next {w w1 w2 : World} {base : Nat} {v v1 : Value} {n : Nat} {l : List UInt8} (h : Grew w w1 base v v1 n l) (k : Below w1.heap.size w1 w2) : Grew w w2 base v v1 n l :=
  ⟨own_next h.own k, h.kp.next k, h.sub⟩

set_option maxRecDepth 100000 in
set_option maxHeartbeats 1000000 in
theorem appNum_any (n : Int) (k : Nat) (hk : k ≤ 8) (base : Nat) (v : Value) (m : Nat) (l : List UInt8) (w : World) (ho : w.ownsRow base 5 1 v m (bv l)) (hb : base ≤ w.heap.size) (hl : m ≤ 900000000) :
    Calls Tryd.prog 35 #[v, .int .i64 n, .int .i64 (k : Int)] w fun e w' => ∃ v', e = .returned v' ∧ Hid (Grew w w' base v v' (m + k) (l ++ numB n k)) := by
  go_enter Tryd.func35, Tryd.ntmps35
  go_wp2
  go_loopw [0, 2] (fun b i wr => ∃ (j : Nat) (l' : List UInt8), j ≤ k ∧ i = .int .i64 ((j : Int) - 1) ∧ Hid (l' ++ numB n j = l ++ numB n k) ∧ Hid (Grew w wr base v b (m + k - j) l')) (fun _ i _ => (intOf i + 1).toNat)
  case atStart => exact ⟨k, l, Nat.le_refl _, rfl, rfl, by rw [Nat.add_sub_cancel]; exact ⟨ho, Kp.refl _ _, fun g hg => .inl hg⟩⟩
  case round =>
    obtain ⟨j, l', hj, rfl, hl', hG⟩ := hrel
    have ho' := hG.out.own
    cases j with
    | zero =>
      obtain ⟨q, c, rfl, -, -⟩ := own_slice ho'
      go_wp2
      first | (change bodyPost Tryd.prog Tryd.f35 _ Exit.ret _ _) | (simp only [Exit.noGoto])
      go_ret
      refine ⟨_, rfl, ?_⟩
      have e := hl'.out
      rw [numB, List.append_nil] at e
      rw [← e]
      exact hG
    | succ j =>
      have e1 : ((j + 1 : Nat) : Int) - 1 = (j : Int) := by omega
      rw [e1]
      have hz : base ≤ wr.heap.size := Nat.le_trans hb hG.out.kp.size
      have j0 : (0 : Int) ≤ (j : Int) := by omega
      have j8 : (j : Int) ≤ 7 := by omega
      have H1 : Hid (∀ u ∈ (#[.int .u8 (n / 2 ^ (8 * j) % 256)] : Array Value).toList, u.oneCell' = true) := fun u hu => by
        obtain rfl := List.mem_singleton.1 (by simpa using hu)
        rfl
      go_wp2_with (first
        | (at_builtin; refine wpList_app 87 5 _ 1 1 Tryd.underlying87 info5 (by rfl) (by decide) (by decide) (by rfl) _ _ (by rfl) base u0 (m + k - (j + 1)) (bv l') (by rfl) ho' _ (by rfl) H1.out (by rfl) (by omega) hz ?_; intro v' w3 ho3 hg3)
        | go_in)
      refine ⟨⟨j, l' ++ [byteOf (n / 2 ^ (8 * j))], by omega, by go_num, ?_, ?_⟩, by simp [intOf]⟩
      · have e := hl'.out
        rw [numB] at e
        show (l' ++ [byteOf (n / 2 ^ (8 * j))]) ++ numB n j = l ++ numB n k
        rw [← e]
        simp
      · have e : bv (l' ++ [byteOf (n / 2 ^ (8 * j))]) = bv l' ++ [.int .u8 (n / 2 ^ (8 * j) % 256)] := by
          rw [bv_app]
          simp only [bv, List.map_cons, List.map_nil, byteOf_nat]
        refine hG.out.step _ hg3.out.1 hg3.out.2 ?_
        have q := ho3.out
        rw [show m + k - (j + 1) + 1 = m + k - j by omega] at q
        rw [e]
        exact q
theorem conv_own {w : World} {base : Nat} {v : Value} {n : Nat} {l : List UInt8} (h : w.ownsRow base 5 1 v n (bv l)) : (convert 87 9 v).run Tryd.prog w = .ok (.string ⟨l.toArray⟩) w := by
  have hn : n = l.length := by have := h.1; rw [bv_len] at this; omega
  rcases h.2 with ⟨rfl, h0⟩ | ⟨g, cap, cur, rfl, hb, hg, hnc, hcm, hcs, htake⟩
  · have hl : l = [] := List.eq_nil_of_length_eq_zero (by omega)
    subst hl
    exact run_convert_bytes_nil w 87 5 Tryd.underlying87 Tryd.underlying5 0 0 9 Tryd.underlying9
  · subst hn
    refine run_convert_bytes_back (P := Tryd.prog) w 87 9 5 ⟨g, 0, none⟩ cap l Tryd.underlying87 Tryd.underlying5 Tryd.underlying9 (fun j hj => ?_)
    exact h.cells (g := g) rfl j _ (by unfold bv; rw [List.getElem?_map, List.getElem?_eq_getElem hj]; rfl)
end Go.Proofs.YtdcioemjmmhbhaaDoor
