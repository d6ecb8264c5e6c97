import Derived.Test.YtdcioemjmmhbhaaDoorReadW
namespace Go.Proofs.YtdcioemjmmhbhaaDoor
open Go.RowKit

def okH (A : Hp) (c : Nat) : Prop := ∀ a ∈ A, (1 ≤ a.1 ∧ a.1 ≤ 4) ∧ ∀ v ∈ a.2, mayS v a.1 c = true ∧ inR v.2.1

set_option maxRecDepth 100000 in
set_option maxHeartbeats 4000000 in
theorem load_any (w : World) (l : Int) (A : Hp) (hu : usedS A ≤ limS l) (hok : okH A A.length) (hz : Zt w) :
    Calls Tryd.prog 18 #[.int .i64 l, .string (str (saveS A))] w fun e w' => e = .returned (.tuple #[.pointer (some ⟨w.heap.size, 0, none⟩), .int .i64 0]) ∧ Hid (∃ F', HeapOf w' w.heap.size (limS l) A F' ∧ (∀ b, F' b → w.heap.size ≤ b) ∧ Below w.heap.size w w') := by
  have hlim := limS_le l
  have hAl : A.length ≤ 100000 := by have := used_ge A; omega
  have hsv : saveS A = numB 72 1 ++ (numB (A.length : Int) 8 ++ A.flatMap arB) := by
    have e : numB 72 1 = [72] := by decide
    unfold saveS
    rw [e]
    rfl
  have hbd : (A.flatMap arB).length ≤ 25800000 := by
    have h1 := ars_bound A (fun a ha v hv => may_small ((hok a ha).2 v hv).1)
    omega
  have hl1 : (numB 72 1 ++ (numB (A.length : Int) 8 ++ A.flatMap arB)).length ≤ 9223372036854775807 := by
    rw [List.length_append, List.length_append, numB_len, numB_len]
    omega
  have hl2 : (numB (A.length : Int) 8 ++ A.flatMap arB).length ≤ 9223372036854775807 := by
    rw [List.length_append, numB_len]
    omega
  rw [hsv]
  have nw := new_any l w
  generalize limS l = lim at nw hu hlim ⊢
  have v1 : numV (numB 72 1) = 72 := by rw [nv1]; rfl
  have v2 : numV (numB (A.length : Int) 8) = (A.length : Int) := num8 _ (by omega) (by omega)
  have HOK : Hid (okH A A.length) := hok
  clear hsv hok
  generalize htx : str (numB 72 1 ++ (numB (A.length : Int) 8 ++ A.flatMap arB)) = tx
  go_enter Tryd.func18, Tryd.ntmps18
  go_wp2_with fail
  refine nw.mono ?_
  rintro e w1 ⟨rfl, h1, b1⟩
  have hp1 : w.heap.size < w1.heap.size := h1.flt _ rfl
  have h1c : HeapC w1 w.heap.size lim [] A.length (fun b => b = w.heap.size) := by
    obtain ⟨As, rq, rn, rg, ro, av, e, q⟩ := h1
    have ea : As = [] := by
      unfold absA at e
      exact List.map_eq_nil_iff.1 e
    subst ea
    exact ⟨[], rq, rn, rg, ro, av, rfl, q.recount A.length (fun a ha => by cases ha)⟩
  have nb : Below w1.heap.size w1 (w1.alloc (.cells #[.string tx, .bool false] 94)) := (Below.refl _ w1).alloc (Nat.le_refl _) _
  have bx := Box2.new w1 (.string tx) (.bool false) 94
  have hX := h1c.next nb
  have BX : Below w.heap.size w (w1.alloc (.cells #[.string tx, .bool false] 94)) := below2 b1 nb
  have zX : w1.heap.size < (w1.alloc (.cells #[.string tx, .bool false] 94)).heap.size := by simp
  clear nw h1 h1c nb b1
  go_wp2_with fail
  generalize w1.alloc (.cells #[.string tx, .bool false] 94) = X at bx hX BX zX ⊢
  generalize w1.heap.size = rb at bx zX hp1 ⊢
  rw [← htx] at bx
  have n1 := number_any X rb (numB 72 1) _ hl1 bx
  rw [numB_len, v1] at n1
  refine n1.mono ?_
  rintro e w2 ⟨rfl, hq2⟩
  obtain ⟨r2, k2⟩ := hq2.out
  have n2 := number_any w2 rb (numB (A.length : Int) 8) _ hl2 r2
  rw [numB_len, v2] at n2
  clear n1 bx hq2
  go_wp2_with fail
  refine n2.mono ?_
  rintro e w3 ⟨rfl, hq3⟩
  obtain ⟨r3, k3⟩ := hq3.out
  have k23 : Kp (fun x => x = rb) X w3 := k2.trans k3 (fun _ _ q => q)
  have h3 := hX.kept k23 (fun x hx e => by omega)
  have B3 : Below w.heap.size w w3 := BX.trans (k23.below (fun k hk => by omega) (by have := BX.size; omega))
  have HST : Hid (∃ F', HeapC w3 w.heap.size lim (A.take 0) A.length F' ∧ Box2 w3 rb (.string (str ((A.drop 0).flatMap arB))) (.bool false) ∧ Below w.heap.size w w3 ∧ (∀ x, F' x → w.heap.size ≤ x) ∧ ¬ F' rb) := ⟨_, h3, r3, B3, fun x hx => by omega, fun e => by omega⟩
  clear n2 hq3 r2 r3 k2 k3 k23 h3 B3 hX BX v1 v2 hl1 hl2 htx
  have a0 : (0 : Int) ≤ (A.length : Int) := Int.natCast_nonneg _
  go_wp2_with fail
  go_loopw [10, 11] (fun g v wr => ∃ i : Nat, i ≤ A.length ∧ g = .bool true ∧ v = .int .i64 (i : Int) ∧ Hid (∃ F', HeapC wr w.heap.size lim (A.take i) A.length F' ∧ Box2 wr rb (.string (str ((A.drop i).flatMap arB))) (.bool false) ∧ Below w.heap.size w wr ∧ (∀ x, F' x → w.heap.size ≤ x) ∧ ¬ F' rb)) (fun _ v _ => A.length - (intOf v).toNat)
  case atStart => exact ⟨0, Nat.zero_le _, rfl, rfl, HST⟩
  case round =>
    obtain ⟨i, hi, rfl, rfl, hq⟩ := hrel
    clear HST
    obtain ⟨F', h4, r4, B4, hF4, hr4⟩ := hq.out
    by_cases hlt : i < A.length
    case neg =>
      obtain rfl : i = A.length := by omega
      rw [List.take_length] at h4
      rw [List.drop_length, List.flatMap_nil] at r4
      have l0 := r4.1.1
      have l1 := r4.2.1
      rw [show str [] = e0 from rfl] at l0
      have HFIN : Hid (∃ F', HeapOf wr w.heap.size lim A F' ∧ (∀ b, F' b → w.heap.size ≤ b) ∧ Below w.heap.size w wr) := ⟨F', h4.toOf (fun a ha v hv => ((HOK.out a ha).2 v hv).1), hF4, B4⟩
      clear h4 r4 hq
      go_wp2
      first | (change bodyPost Tryd.prog Tryd.f18 _ Exit.ret _ _) | (simp only [Exit.noGoto])
      exact bodyPost_ret (v := .tuple #[.pointer (some ⟨w.heap.size, 0, none⟩), .int .i64 0]) (by simp [results, Tryd.results18, go_sem]) rfl ⟨rfl, HFIN⟩
    have hmem : A[i] ∈ A := List.getElem_mem hlt
    have hdr : (A.drop i).flatMap arB = arB A[i] ++ (A.drop (i + 1)).flatMap arB := by rw [List.drop_eq_getElem_cons hlt, List.flatMap_cons]
    rw [hdr] at r4
    have hll : (arB A[i] ++ (A.drop (i + 1)).flatMap arB).length ≤ 9223372036854775807 := by
      rw [← hdr]
      have e : A.flatMap arB = (A.take i).flatMap arB ++ (A.drop i).flatMap arB := by rw [← List.flatMap_append, List.take_append_drop]
      rw [e, List.length_append] at hbd
      omega
    have hus : usedS (A.take i) + (A[i].2.length + 1) ≤ lim := by
      have e : A = A.take (i + 1) ++ A.drop (i + 1) := (List.take_append_drop _ _).symm
      have h5 := used_app (A.take (i + 1)) (A.drop (i + 1))
      rw [← e, List.take_succ_eq_append_getElem hlt, used_app] at h5
      have h6 : usedS [A[i]] = A[i].2.length + 1 := by simp [usedS]
      omega
    have hz4 : Zt wr := hz.same (B4.block 0 hz.pos)
    have hrd := read_any h4 hz4 (fun e => by have := hF4 0 e; have := hz.pos; omega) rb (by omega) hr4 A[i].1 A[i].2 (HOK.out _ hmem).1 hus hlim (HOK.out _ hmem).2 _ hll r4
    have htk : A.take i ++ [(A[i].1, A[i].2)] = A.take (i + 1) := by rw [List.take_succ_eq_append_getElem hlt]
    rw [htk] at hrd
    have HNX : Hid (∀ W, Hid (∃ F'', HeapC W w.heap.size lim (A.take (i + 1)) A.length F'' ∧ Box2 W rb (.string (str ((A.drop (i + 1)).flatMap arB))) (.bool false) ∧ Kp (fun x => F' x ∨ x = rb) wr W ∧ ∀ x, F'' x → F' x ∨ wr.heap.size ≤ x) → ∃ F', HeapC W w.heap.size lim (A.take (i + 1)) A.length F' ∧ Box2 W rb (.string (str ((A.drop (i + 1)).flatMap arB))) (.bool false) ∧ Below w.heap.size w W ∧ (∀ x, F' x → w.heap.size ≤ x) ∧ ¬ F' rb) := fun W hW => by
      obtain ⟨F'', q1, q2, q3, q4⟩ := hW.out
      refine ⟨F'', q1, q2, B4.trans (q3.below (fun k hk => by rcases hk with r | r; exact hF4 k r; omega) B4.size), fun x hx => ?_, fun e => ?_⟩
      · rcases q4 x hx with r | r
        · exact hF4 x r
        · have := B4.size
          omega
      · rcases q4 rb e with r | r
        · exact hr4 r
        · have := block_lt_of_cell r4.1.1
          simp only at this
          omega
    have i1 : (i : Int) < (A.length : Int) := Int.ofNat_lt.2 hlt
    clear hq h4 hdr hll hus htk hz4 r4 hbd
    go_wp2_with (first | (go_at_call 41; refine hrd.mono ?_; rintro e w5 ⟨rfl, hq5⟩) | go_in)
    exact ⟨⟨i + 1, by omega, rfl, by go_num, HNX.out w5 hq5⟩, by simp [intOf]; omega⟩
end Go.Proofs.YtdcioemjmmhbhaaDoor
