import Derived.Test.YtdcioemjmmhbhaaDoorJc
import Derived.Test.YtdcioemjmmhbhaaDoorLoad
import Derived.Test.YtdcioemjmmhbhaaDoorPutM
namespace Go.Proofs.YtdcioemjmmhbhaaDoor
open Go.RowKit

/-- A heap within the limit that is saved as just these bytes. -/
def Good (l : Int) (b : ByteArray) (A : Hp) : Prop := okH A A.length ∧ usedS A ≤ limS l ∧ b = str (saveS A)
theorem save_eq (A : Hp) : saveS A = numB 72 1 ++ (numB (A.length : Int) 8 ++ A.flatMap arB) := by
  have e : numB 72 1 = [72] := by decide
  unfold saveS
  rw [e]
  rfl
theorem str_get (l : List UInt8) (i : Nat) (h : i < (str l).size) : (str l)[i].toNat = (l.getD i 0).toNat := by
  have h' : i < l.length := by rw [str_size] at h; exact h
  rw [List.getD_eq_getElem?_getD, List.getElem?_eq_getElem h']
  rfl
theorem numR_snoc (pre post : List UInt8) (n : Int) (k : Nat) : numR (str (pre ++ (numB n (k + 1) ++ post))) pre.length (k + 1) = IntKind.u64.wrap (IntKind.u64.wrap (numR (str (pre ++ (numB (n / 256) k ++ (byteOf n :: post)))) pre.length k * 256) + n % 256) := by
  have e : pre ++ (numB n (k + 1) ++ post) = pre ++ (numB (n / 256) k ++ (byteOf n :: post)) := by rw [numB_snoc]; simp
  rw [e, numR]
  have hlen : pre.length + k < (pre ++ (numB (n / 256) k ++ (byteOf n :: post))).length := by
    rw [List.length_append, List.length_append, numB_len, List.length_cons]
    omega
  unfold stepN
  rw [dif_pos (by rw [str_size]; exact hlen), str_get]
  have hg : (pre ++ (numB (n / 256) k ++ (byteOf n :: post))).getD (pre.length + k) 0 = byteOf n := by
    rw [List.getD_eq_getElem?_getD, List.getElem?_append_right (by omega), List.getElem?_append_right (by rw [numB_len]; omega)]
    simp [numB_len]
  rw [hg, byteOf_nat]
  simp only [IntKind.wrap_u64]
  omega
theorem ur1 (pre post : List UInt8) (n : Int) : numR (str (pre ++ (numB n 1 ++ post))) pre.length 1 = n % 256 := by
  rw [numR_snoc]
  show IntKind.u64.wrap (IntKind.u64.wrap (0 * 256) + n % 256) = _
  simp only [IntKind.wrap_u64]
  omega
theorem ur2 (pre post : List UInt8) (n : Int) : numR (str (pre ++ (numB n 2 ++ post))) pre.length 2 = n % 65536 := by
  rw [numR_snoc, ur1]
  simp only [IntKind.wrap_u64]
  omega
theorem ur3 (pre post : List UInt8) (n : Int) : numR (str (pre ++ (numB n 3 ++ post))) pre.length 3 = n % 16777216 := by
  rw [numR_snoc, ur2]
  simp only [IntKind.wrap_u64]
  omega
theorem ur4 (pre post : List UInt8) (n : Int) : numR (str (pre ++ (numB n 4 ++ post))) pre.length 4 = n % 4294967296 := by
  rw [numR_snoc, ur3]
  simp only [IntKind.wrap_u64]
  omega
theorem ur5 (pre post : List UInt8) (n : Int) : numR (str (pre ++ (numB n 5 ++ post))) pre.length 5 = n % 1099511627776 := by
  rw [numR_snoc, ur4]
  simp only [IntKind.wrap_u64]
  omega
theorem ur6 (pre post : List UInt8) (n : Int) : numR (str (pre ++ (numB n 6 ++ post))) pre.length 6 = n % 281474976710656 := by
  rw [numR_snoc, ur5]
  simp only [IntKind.wrap_u64]
  omega
theorem ur7 (pre post : List UInt8) (n : Int) : numR (str (pre ++ (numB n 7 ++ post))) pre.length 7 = n % 72057594037927936 := by
  rw [numR_snoc, ur6]
  simp only [IntKind.wrap_u64]
  omega
theorem ur8 (pre post : List UInt8) (n : Int) : numR (str (pre ++ (numB n 8 ++ post))) pre.length 8 = n % 18446744073709551616 := by
  rw [numR_snoc, ur7]
  simp only [IntKind.wrap_u64]
  omega
theorem cut_mid (a m z : List UInt8) : (str (a ++ (m ++ z))).extract a.length (a.length + m.length) = str m := by
  apply ByteArray.ext
  simp [str, ByteArray.data_extract]
/-- An element is read back as it was written. -/
theorem elR_elB (pre post : List UInt8) (v : V) (c : Nat) (hk : 1 ≤ v.1 ∧ v.1 ≤ 4) (hm : mayS v v.1 c = true) (hn : inR v.2.1) : elR (str (pre ++ (elB v ++ post))) pre.length v.1 = (v, (elB v).length) := by
  obtain ⟨k, n, s⟩ := v
  obtain ⟨o2, o3, o1⟩ := ok_parts (k := k) (n := n) (s := s) (may_parts hm).2
  unfold inR at hn
  simp only at hk hn ⊢
  unfold elR
  by_cases h2 : k = 2
  · obtain ⟨n01, rfl⟩ := o2 h2
    have he : elB (k, n, e0) = numB n 1 := by unfold elB; rw [if_pos h2]; simp [numB]
    rw [if_pos h2, he, ur1, numB_len, h2]
    have : wrap64 (n % 256) = n := by unfold wrap64; omega
    rw [this]
  rw [if_neg h2]
  by_cases h3 : k = 3
  · obtain ⟨rfl, hs⟩ := o3 h3
    have he : elB (k, 0, s) = numB (s.size : Int) 2 ++ s.data.toList := by unfold elB; rw [if_neg h2, if_pos h3]
    have hsl : s.data.toList.length = s.size := by rw [← Lib.size_eq]
    have hst : str s.data.toList = s := by simp [str]
    rw [if_pos h3, he, List.append_assoc, ur2, show (s.size : Int) % 65536 = (s.size : Int) by omega, Int.toNat_natCast]
    have hz : (str (pre ++ (numB (s.size : Int) 2 ++ (s.data.toList ++ post)))).size = pre.length + 2 + s.size + post.length := by
      rw [str_size, List.length_append, List.length_append, List.length_append, numB_len, hsl]
      omega
    rw [if_neg (by rw [hz]; omega)]
    have hc := cut_mid (pre ++ numB (s.size : Int) 2) s.data.toList post
    rw [List.length_append, numB_len, hsl, List.append_assoc, hst] at hc
    rw [hc, List.length_append, numB_len, hsl, h3]
  · rw [if_neg h3]
    obtain rfl := o1 (by omega)
    have he : elB (k, n, e0) = numB n 8 := by unfold elB; rw [if_neg h2, if_neg h3]
    rw [he, ur8, numB_len]
    have : wrap64 (n % 18446744073709551616) = n := by unfold wrap64; omega
    rw [this]
theorem elR_facts (b : ByteArray) (o : Nat) (kd : Int) (hb : b.size ≤ 281474976710656) : (elR b o kd).1.1 = kd ∧ inR (elR b o kd).1.2.1 ∧ (elR b o kd).1.2.2.size ≤ 281474976710656 ∧ (elR b o kd).2 ≤ 65537 := by
  have hw : ∀ x : Int, inR (wrap64 x) := fun x => by unfold inR wrap64; omega
  obtain ⟨n, hn, hn6⟩ := numR_two b o
  unfold elR
  split
  · rename_i h
    exact ⟨h.symm, hw _, by show 0 ≤ _; omega, by show 1 ≤ _; omega⟩
  split
  · rename_i h
    split
    · exact ⟨h.symm, ⟨by decide, by decide⟩, by show 0 ≤ _; omega, by show 2 ≤ _; omega⟩
    · refine ⟨h.symm, (show inR 0 from ⟨by decide, by decide⟩), ?_, ?_⟩
      · rw [ByteArray.size_extract]
        omega
      · show 2 + (numR b o 2).toNat ≤ _
        rw [hn]
        omega
  · exact ⟨rfl, hw _, by show 0 ≤ _; omega, by show 8 ≤ _; omega⟩

/-- The puts of a row, from a place on. -/
def rowP (k : Nat) : Nat → List V → List Dn
  | _, [] => []
  | j, v :: vs => (k, j, v) :: rowP k (j + 1) vs
def putsOf : Nat → Hp → List Dn
  | _, [] => []
  | k, a :: A => rowP k 0 a.2 ++ putsOf (k + 1) A
def zeroA (A : Hp) : Hp := A.map fun a => (a.1, List.replicate a.2.length (a.1, 0, e0))
theorem rowP_app (k : Nat) : ∀ (j : Nat) (a b : List V), rowP k j (a ++ b) = rowP k j a ++ rowP k (j + a.length) b
  | j, [], b => by simp [rowP]
  | j, v :: a, b => by
    rw [List.cons_append, rowP, rowP, rowP_app k (j + 1) a b, List.length_cons, List.cons_append, show j + 1 + a.length = j + (a.length + 1) by omega]
theorem rowP_len (k : Nat) : ∀ (j : Nat) (a : List V), (rowP k j a).length = a.length
  | j, [] => rfl
  | j, v :: a => by rw [rowP, List.length_cons, rowP_len k (j + 1) a, List.length_cons]
theorem putsOf_app : ∀ (k : Nat) (A B : Hp), putsOf k (A ++ B) = putsOf k A ++ putsOf (k + A.length) B
  | k, [], B => by simp [putsOf]
  | k, a :: A, B => by
    rw [List.cons_append, putsOf, putsOf, putsOf_app (k + 1) A B, List.append_assoc, List.length_cons, show k + 1 + A.length = k + (A.length + 1) by omega]
theorem rowP_mem {k : Nat} : ∀ {j : Nat} {a : List V} {d : Dn}, d ∈ rowP k j a → d.1 = k ∧ ∃ i, d.2.1 = j + i ∧ a[i]? = some d.2.2
  | j, [], d, h => by cases h
  | j, v :: a, d, h => by
    rw [rowP] at h
    rcases List.mem_cons.1 h with rfl | h
    · exact ⟨rfl, 0, rfl, rfl⟩
    · obtain ⟨h1, i, h2, h3⟩ := rowP_mem h
      exact ⟨h1, i + 1, by omega, by simpa using h3⟩
theorem putsOf_mem : ∀ {k : Nat} {A : Hp} {d : Dn}, d ∈ putsOf k A → ∃ n a, d.1 = k + n ∧ A[n]? = some a ∧ a.2[d.2.1]? = some d.2.2
  | k, [], d, h => by cases h
  | k, a :: A, d, h => by
    rw [putsOf] at h
    rcases List.mem_append.1 h with h | h
    · obtain ⟨h1, i, h2, h3⟩ := rowP_mem h
      exact ⟨0, a, h1, rfl, by rw [h2, Nat.zero_add]; exact h3⟩
    · obtain ⟨n, a', h1, h2, h3⟩ := putsOf_mem h
      exact ⟨n + 1, a', by omega, by simpa using h2, h3⟩
def setP (A : Hp) (d : Dn) : Hp := A.modify (d.1 - 1) fun a => (a.1, a.2.set d.2.1 d.2.2)
theorem modify_mid {α : Type} (x : α) (f : α → α) (Z : List α) : ∀ l : List α, (l ++ x :: Z).modify l.length f = l ++ f x :: Z
  | [] => rfl
  | a :: l => by rw [List.cons_append, List.length_cons, List.modify_succ_cons, modify_mid x f Z l]; rfl
theorem row_do (pre Z : Hp) (k : Int) : ∀ (vs E rest : List V), rest.length = vs.length → (rowP (pre.length + 1) E.length vs).foldl setP (pre ++ (k, E ++ rest) :: Z) = pre ++ (k, E ++ vs) :: Z
  | [], E, rest, h => by
    have : rest = [] := List.length_eq_zero_iff.1 h
    subst this
    rfl
  | v :: vs, E, [], h => by simp at h
  | v :: vs, E, r :: rest, h => by
    have hs : setP (pre ++ (k, E ++ r :: rest) :: Z) (pre.length + 1, E.length, v) = pre ++ (k, (E ++ [v]) ++ rest) :: Z := by
      unfold setP
      rw [show (pre.length + 1, E.length, v).1 - 1 = pre.length from rfl, modify_mid]
      simp
    rw [rowP, List.foldl_cons, hs]
    have ih := row_do pre Z k vs (E ++ [v]) rest (by simpa using h)
    rw [List.length_append] at ih
    rw [show E.length + 1 = E.length + [v].length from rfl, ih, List.append_assoc]
    rfl
theorem all_do : ∀ (A pre : Hp), (putsOf (pre.length + 1) A).foldl setP (pre ++ zeroA A) = pre ++ A
  | [], pre => by simp [putsOf, zeroA]
  | a :: A, pre => by
    have h1 := row_do pre (zeroA A) a.1 a.2 [] (List.replicate a.2.length (a.1, 0, e0)) (by simp)
    rw [List.nil_append, List.nil_append] at h1
    have h2 := all_do A (pre ++ [a])
    rw [List.length_append] at h2
    rw [putsOf, List.foldl_append, show zeroA (a :: A) = (a.1, List.replicate a.2.length (a.1, 0, e0)) :: zeroA A from rfl]
    rw [show ([] : List V).length = 0 from rfl] at h1
    rw [h1, show pre ++ (a.1, a.2) :: zeroA A = (pre ++ [a]) ++ zeroA A by simp, show pre.length + 1 + 1 = pre.length + [a].length + 1 from rfl, h2]
    simp
theorem zero_do (A : Hp) : (putsOf 1 A).foldl setP (zeroA A) = A := all_do A []
/-- Kinds and lengths stay. -/
def shp (A : Hp) : List (Int × Nat) := A.map fun a => (a.1, a.2.length)
theorem shp_set (A : Hp) (d : Dn) : shp (setP A d) = shp A := by
  unfold shp setP
  apply List.ext_getElem?
  intro i
  rw [List.getElem?_map, List.getElem?_modify, List.getElem?_map]
  cases A[i]? with
  | none => rfl
  | some a => by_cases h : d.1 - 1 = i <;> simp [h]
theorem shp_fold : ∀ (l : List Dn) (A : Hp), shp (l.foldl setP A) = shp A
  | [], A => rfl
  | d :: l, A => by rw [List.foldl_cons, shp_fold l, shp_set]
theorem shp_zero (A : Hp) : shp (zeroA A) = shp A := by
  unfold shp zeroA
  rw [List.map_map]
  congr 1
  funext a
  simp
theorem shp_at {A B : Hp} (h : shp A = shp B) {n : Nat} {b : Int × List V} (hb : B[n]? = some b) : ∃ a, A[n]? = some a ∧ a.1 = b.1 ∧ a.2.length = b.2.length := by
  have := congrArg (fun l => l[n]?) h
  simp only [shp, List.getElem?_map, hb] at this
  cases ha : A[n]? with
  | none => rw [ha] at this; simp at this
  | some a =>
    rw [ha] at this
    simp at this
    exact ⟨a, rfl, this.1, this.2⟩
theorem shp_len {A B : Hp} (h : shp A = shp B) : A.length = B.length := by
  have := congrArg List.length h
  simpa [shp] using this
theorem place_at {A : Hp} {n j : Nat} {a : Int × List V} (ha : A[n]? = some a) (hj : j < a.2.length) : placeH A (4, ((n + 1 : Nat) : Int), e0) (j : Int) = (a, 0) := by
  have hn := (List.getElem?_eq_some_iff.1 ha).1
  have hm : mayS (4, ((n + 1 : Nat) : Int), e0) 4 A.length = true := by
    unfold mayS okV
    simp
    refine ⟨?_, by omega⟩
    first | decide | rfl | (constructor <;> first | omega | rfl)
  have hf := findH_at (v := (4, ((n + 1 : Nat) : Int), e0)) hm n (by simp) a ha
  unfold placeH
  rw [hf, if_neg]
  rintro ⟨_, h⟩
  simp only at h
  omega
theorem putH_at {A : Hp} {n j : Nat} {a : Int × List V} {x : V} (ha : A[n]? = some a) (hj : j < a.2.length) (hx : mayS x a.1 A.length = true) : putH A (4, ((n + 1 : Nat) : Int), e0) (j : Int) x = (setP A (n + 1, j, x), 0) := by
  unfold putH setP
  rw [place_at ha hj, if_pos rfl, if_neg (by simp only; rw [hx]; decide)]
  simp only [Int.toNat_natCast]
/-- Good heaps: a put of them that is not refused; a Make. -/
theorem okH_put {A : Hp} {v : V} {i : Int} {x : V} (h : okH A A.length) (hp : (putH A v i x).2 = 0) (hx : inR x.2.1) : okH (putH A v i x).1 (putH A v i x).1.length := by
  unfold putH at hp ⊢
  by_cases h1 : (placeH A v i).2 = 0
  · rw [if_pos h1] at hp ⊢
    by_cases h2 : mayS x (placeH A v i).1.1 A.length = false
    · rw [if_pos h2] at hp
      cases hp
    · rw [if_neg h2]
      obtain ⟨j, ii, a, e1, e2, e3, e4, e5⟩ := place_yes (k := v.1) (n := v.2.1) (s := v.2.2) h1
      have h2' : mayS x a.1 A.length = true := by
        have : placeH A v i = placeH A (v.1, v.2.1, v.2.2) i := rfl
        rw [this, e5] at h2
        simpa using h2
      intro y hy
      simp only [List.length_modify] at hy ⊢
      obtain ⟨m, hm⟩ := List.getElem?_of_mem hy
      rw [List.getElem?_modify] at hm
      cases hA : A[m]? with
      | none => rw [hA] at hm; simp at hm
      | some z =>
        rw [hA] at hm
        have hz := h z (List.mem_of_getElem? hA)
        by_cases hmm : v.2.1.toNat - 1 = m
        · have hmj : m = j := by omega
          subst hmj
          rw [e3] at hA
          obtain rfl := Option.some.inj hA
          have hy' : y = (a.1, a.2.set i.toNat x) := by
            simp [hmm] at hm
            exact hm.symm
          subst hy'
          refine ⟨hz.1, fun u hu => ?_⟩
          rcases List.mem_or_eq_of_mem_set hu with r | r
          · exact hz.2 u r
          · rw [r]
            exact ⟨h2', hx⟩
        · have hy' : y = z := by
            simp [hmm] at hm
            exact hm.symm
          subst hy'
          exact hz
  · rw [if_neg h1] at hp
    exact absurd hp h1
theorem okH_make {A : Hp} {k : Int} {n : Nat} (h : okH A A.length) (hk : 1 ≤ k ∧ k ≤ 4) : okH (A ++ [(k, List.replicate n (k, 0, e0))]) (A ++ [(k, List.replicate n (k, 0, e0))]).length := by
  rw [List.length_append]
  intro a ha
  rcases List.mem_append.1 ha with q | q
  · refine ⟨(h a q).1, fun v hv => ⟨?_, ((h a q).2 v hv).2⟩⟩
    have := ((h a q).2 v hv).1
    unfold mayS at this ⊢
    simp only [Bool.and_eq_true, Bool.or_eq_true, decide_eq_true_eq] at this ⊢
    refine ⟨this.1, ?_⟩
    rcases this.2 with r | r
    · exact .inl r
    · exact .inr (by simp; omega)
  · rw [List.mem_singleton.1 q]
    refine ⟨hk, fun v hv => ?_⟩
    rw [(List.mem_replicate.1 hv).2]
    refine ⟨?_, (show inR 0 from ⟨by decide, by decide⟩)⟩
    have : k = 1 ∨ k = 2 ∨ k = 3 ∨ k = 4 := by omega
    unfold mayS okV
    rcases this with rfl | rfl | rfl | rfl <;> simp <;> first | decide | omega | (constructor <;> first | decide | omega)
theorem RefOf.used {w : World} {p lim N : Nat} {A : Hp} {F : Nat → Prop} (h : RefOf w p lim A N F) : usedS A ≤ lim := by
  obtain ⟨Md, Ps, mv, pv, h1, h2, h3⟩ := h
  rw [← h2.used]
  exact h1.le
/-- Where the array i begins. -/
def offA (A : Hp) (i : Nat) : Nat := 9 + ((A.take i).flatMap arB).length
theorem arB_len (a : Int × List V) : (arB a).length = 9 + (a.2.flatMap elB).length := by
  unfold arB
  rw [List.length_cons, List.length_append, numB_len]
  omega
theorem elB_pos (v : V) : 1 ≤ (elB v).length := by
  unfold elB
  split
  · simp
  split
  · rw [List.length_append, numB_len]
    omega
  · rw [numB_len]
    decide
theorem elsB_len : ∀ l : List V, l.length ≤ (l.flatMap elB).length
  | [] => Nat.le_refl _
  | v :: l => by
    have := elsB_len l
    have := elB_pos v
    rw [List.flatMap_cons, List.length_append, List.length_cons]
    omega
end Go.Proofs.YtdcioemjmmhbhaaDoor
namespace Go.Proofs.YtdcioemjmmhbhaaDoor
open Go.RowKit

theorem Good.small {l : Int} {b : ByteArray} {A : Hp} (h : Good l b A) : A.length ≤ 100000 ∧ ∀ a ∈ A, a.2.length ≤ 100000 := by
  have h1 := used_ge A
  have h2 := h.2.1
  have h3 := limS_le l
  exact ⟨by omega, fun a ha => by have := used_mem ha; omega⟩
theorem Good.count {l : Int} {b : ByteArray} {A : Hp} (h : Good l b A) : numR b 1 8 = (A.length : Int) := by
  have h1 := h.small.1
  have e := ur8 (numB 72 1) (A.flatMap arB) (A.length : Int)
  rw [numB_len] at e
  rw [h.2.2, save_eq, e]
  omega
theorem Good.at' {l : Int} {b : ByteArray} {A : Hp} (h : Good l b A) {i : Nat} {a : Int × List V} (ha : A[i]? = some a) : ∃ pre post : List UInt8, pre.length = offA A i ∧ b = str (pre ++ (arB a ++ post)) := by
  obtain ⟨hi, rfl⟩ := List.getElem?_eq_some_iff.1 ha
  refine ⟨numB 72 1 ++ (numB (A.length : Int) 8 ++ (A.take i).flatMap arB), (A.drop (i + 1)).flatMap arB, ?_, ?_⟩
  · unfold offA
    rw [List.length_append, List.length_append, numB_len, numB_len]
    omega
  · rw [h.2.2, save_eq]
    have e : A.flatMap arB = (A.take i).flatMap arB ++ (arB A[i] ++ (A.drop (i + 1)).flatMap arB) := by
      rw [← List.flatMap_cons, ← List.drop_eq_getElem_cons hi, ← List.flatMap_append, List.take_append_drop]
    rw [e]
    simp only [List.append_assoc]
theorem Good.head {l : Int} {b : ByteArray} {A : Hp} (h : Good l b A) {i : Nat} {a : Int × List V} (ha : A[i]? = some a) : numR b (offA A i) 1 = a.1 ∧ numR b (offA A i + 1) 8 = (a.2.length : Int) ∧ offA A i + 9 + a.2.length ≤ b.size := by
  obtain ⟨pre, post, h1, h2⟩ := h.at' ha
  have hk := (h.1 a (List.mem_of_getElem? ha)).1
  have hl := h.small.2 a (List.mem_of_getElem? ha)
  have hel := elsB_len a.2
  rw [arB_app] at h2
  refine ⟨?_, ?_, ?_⟩
  · rw [h2, ← h1, ur1]
    omega
  · have e := ur8 (pre ++ numB a.1 1) (a.2.flatMap elB ++ post) (a.2.length : Int)
    rw [List.length_append, numB_len, List.append_assoc] at e
    rw [h2, ← h1, e]
    omega
  · rw [h2, str_size]
    simp only [List.length_append, numB_len]
    omega
theorem Good.el {l : Int} {b : ByteArray} {A : Hp} (h : Good l b A) {i : Nat} {a : Int × List V} (ha : A[i]? = some a) {j : Nat} {v : V} (hv : a.2[j]? = some v) : elR b (offA A i + 9 + ((a.2.take j).flatMap elB).length) a.1 = (v, (elB v).length) := by
  obtain ⟨pre, post, h1, h2⟩ := h.at' ha
  obtain ⟨hk, hm⟩ := h.1 a (List.mem_of_getElem? ha)
  obtain ⟨hm1, hm2⟩ := hm v (List.mem_of_getElem? hv)
  obtain ⟨hj, rfl⟩ := List.getElem?_eq_some_iff.1 hv
  have hvk := (may_parts hm1).1
  have e : a.2.flatMap elB = (a.2.take j).flatMap elB ++ (elB a.2[j] ++ (a.2.drop (j + 1)).flatMap elB) := by
    rw [← List.flatMap_cons, ← List.drop_eq_getElem_cons hj, ← List.flatMap_append, List.take_append_drop]
  have q := elR_elB (pre ++ (numB a.1 1 ++ (numB (a.2.length : Int) 8 ++ (a.2.take j).flatMap elB))) ((a.2.drop (j + 1)).flatMap elB ++ post) a.2[j] A.length (by rw [hvk]; exact hk) (by rw [hvk]; exact hm1) hm2
  rw [hvk] at q
  rw [arB_app, e] at h2
  simp only [List.append_assoc] at h2 q
  rw [← h2] at q
  have hlen : (pre ++ (numB a.1 1 ++ (numB (a.2.length : Int) 8 ++ (a.2.take j).flatMap elB))).length = offA A i + 9 + ((a.2.take j).flatMap elB).length := by
    simp only [List.length_append, numB_len]
    omega
  rw [hlen] at q
  exact q
theorem Good.over {l : Int} {b : ByteArray} {A : Hp} (h : Good l b A) : offA A A.length = b.size := by
  unfold offA
  rw [List.take_length, h.2.2, save_eq, str_size, List.length_append, List.length_append, numB_len, numB_len]
  omega
theorem off_step {A : Hp} {i : Nat} {a : Int × List V} (ha : A[i]? = some a) : offA A (i + 1) = offA A i + 9 + (a.2.flatMap elB).length := by
  obtain ⟨hi, rfl⟩ := List.getElem?_eq_some_iff.1 ha
  unfold offA
  rw [List.take_succ_eq_append_getElem hi, List.flatMap_append, List.length_append]
  have : ([A[i]].flatMap arB).length = 9 + (A[i].2.flatMap elB).length := by
    rw [show [A[i]].flatMap arB = arB A[i] by simp, arB_len]
  omega
theorem used_zero (A : Hp) : usedS (zeroA A) = usedS A := by
  apply used_congr
  unfold zeroA
  rw [List.map_map]
  congr 1
  funext a
  simp

/-- What Load of the reference has laid down, i arrays on. -/
def OutC (l : Int) (b : ByteArray) (i : Nat) (A' : Hp) (P : List Dn) (o : Nat) : Prop := ∀ A, Good l b A → i ≤ A.length ∧ A' = zeroA (A.take i) ∧ P = putsOf 1 (A.take i) ∧ o = offA A i
def InC (l : Int) (b : ByteArray) (i : Nat) (kd : Int) (ln : Nat) (A' : Hp) (P : List Dn) (o j : Nat) : Prop := ∀ A, Good l b A → ∃ a, A[i]? = some a ∧ kd = a.1 ∧ ln = a.2.length ∧ A' = zeroA (A.take (i + 1)) ∧ P = putsOf 1 (A.take i) ++ rowP (i + 1) 0 (a.2.take j) ∧ o = offA A i + 9 + ((a.2.take j).flatMap elB).length
def PutC (l : Int) (b : ByteArray) (i : Nat) (A' : Hp) (P : List Dn) : Prop := ∀ A, Good l b A → P = putsOf 1 A ∧ A' = ((putsOf 1 A).take i).foldl setP (zeroA A)

theorem out_start (l : Int) (b : ByteArray) : OutC l b 0 [] [] 9 := fun _ _ => ⟨Nat.zero_le _, rfl, rfl, rfl⟩
theorem OutC.there {l : Int} {b : ByteArray} {i : Nat} {A' : Hp} {P : List Dn} {o : Nat} (h : OutC l b i A' P o) (ho : o < b.size) {A : Hp} (hA : Good l b A) : ∃ a, A[i]? = some a ∧ o = offA A i := by
  obtain ⟨h1, h2, h3, h4⟩ := h A hA
  by_cases hi : i < A.length
  · exact ⟨A[i], List.getElem?_eq_getElem hi, h4⟩
  · obtain rfl : i = A.length := by omega
    have := hA.over
    omega
theorem OutC.head {l : Int} {b : ByteArray} {i : Nat} {A' : Hp} {P : List Dn} {o : Nat} (h : OutC l b i A' P o) (ho : o < b.size) {A : Hp} (hA : Good l b A) : ∃ a, A[i]? = some a ∧ numR b o 1 = a.1 ∧ numR b (o + 1) 8 = (a.2.length : Int) ∧ o + 9 + a.2.length ≤ b.size := by
  obtain ⟨a, h1, rfl⟩ := h.there ho hA
  exact ⟨a, h1, hA.head h1⟩
theorem OutC.make {l : Int} {b : ByteArray} {i : Nat} {A' : Hp} {P : List Dn} {o : Nat} (h : OutC l b i A' P o) (ho : o < b.size) {A : Hp} (hA : Good l b A) : (makeH A' (limS l) (numR b o 1) (numR b (o + 1) 8)).2.2 = 0 := by
  obtain ⟨a, h1, h2, h3, h4⟩ := h.head ho hA
  obtain ⟨q1, q2, q3, q4⟩ := h A hA
  obtain ⟨hi, rfl⟩ := List.getElem?_eq_some_iff.1 h1
  have hk := (hA.1 _ (List.getElem_mem hi)).1
  have hus : usedS (A.take i) + (A[i].2.length + 1) ≤ limS l := by
    have e : A = A.take (i + 1) ++ A.drop (i + 1) := (List.take_append_drop _ _).symm
    have h5 := used_app (A.take (i + 1)) (A.drop (i + 1))
    rw [← e, List.take_succ_eq_append_getElem hi, used_app] at h5
    have h6 : usedS [A[i]] = A[i].2.length + 1 := by simp [usedS]
    have := hA.2.1
    omega
  rw [h2, h3, q2]
  unfold makeH
  rw [used_zero, if_neg (by omega), if_neg (by omega), if_neg (by omega)]
theorem OutC.enter {l : Int} {b : ByteArray} {i : Nat} {A' : Hp} {P : List Dn} {o : Nat} (h : OutC l b i A' P o) (ho : o < b.size) (kd : Int) (ln : Nat) (hk : numR b o 1 = kd) (hl : numR b (o + 1) 8 = (ln : Int)) : InC l b i kd ln (A' ++ [(kd, List.replicate ln (kd, 0, e0))]) P (o + 9) 0 := fun A hA => by
  obtain ⟨a, h1, h2, h3, h4⟩ := h.head ho hA
  obtain ⟨q1, q2, q3, q4⟩ := h A hA
  have e1 : kd = a.1 := by rw [← hk, h2]
  have e2 : ln = a.2.length := by rw [hl] at h3; omega
  refine ⟨a, h1, e1, e2, ?_, ?_, ?_⟩
  · obtain ⟨hi, rfl⟩ := List.getElem?_eq_some_iff.1 h1
    rw [List.take_succ_eq_append_getElem hi, q2, e1, e2]
    unfold zeroA
    rw [List.map_append]
    rfl
  · rw [q3]
    simp [rowP]
  · rw [q4]
    simp
theorem InC.step {l : Int} {b : ByteArray} {i : Nat} {kd : Int} {ln : Nat} {A' : Hp} {P : List Dn} {o j : Nat} (h : InC l b i kd ln A' P o j) (hj : j < ln) : InC l b i kd ln A' (P ++ [(i + 1, j, (elR b o kd).1)]) (o + (elR b o kd).2) (j + 1) := fun A hA => by
  obtain ⟨a, h1, rfl, rfl, h4, rfl, rfl⟩ := h A hA
  rw [hA.el h1 (List.getElem?_eq_getElem hj)]
  refine ⟨a, h1, rfl, rfl, h4, ?_, ?_⟩
  · rw [List.take_succ_eq_append_getElem hj, rowP_app, List.append_assoc, List.length_take, Nat.min_eq_left (Nat.le_of_lt hj), Nat.zero_add]
    rfl
  · rw [List.take_succ_eq_append_getElem hj, List.flatMap_append, List.length_append]
    simp
    omega
theorem InC.leave {l : Int} {b : ByteArray} {i : Nat} {kd : Int} {ln : Nat} {A' : Hp} {P : List Dn} {o : Nat} (h : InC l b i kd ln A' P o ln) : OutC l b (i + 1) A' P o := fun A hA => by
  obtain ⟨a, h1, rfl, rfl, h4, rfl, rfl⟩ := h A hA
  obtain ⟨hi, rfl⟩ := List.getElem?_eq_some_iff.1 h1
  refine ⟨hi, h4, ?_, ?_⟩
  · rw [List.take_length, List.take_succ_eq_append_getElem hi, putsOf_app, List.length_take, Nat.min_eq_left (Nat.le_of_lt hi), Nat.add_comm 1 i]
    simp [putsOf]
  · rw [List.take_length, off_step h1]
theorem OutC.over {l : Int} {b : ByteArray} {i : Nat} {A' : Hp} {P : List Dn} {o : Nat} (h : OutC l b i A' P o) (ho : ¬ ((i : Int) < numR b 1 8 ∧ o < b.size)) : PutC l b 0 A' P := fun A hA => by
  obtain ⟨q1, q2, q3, q4⟩ := h A hA
  have hi : i = A.length := by
    by_cases hlt : i < A.length
    · exfalso
      apply ho
      rw [hA.count]
      refine ⟨by omega, ?_⟩
      have := (hA.head (List.getElem?_eq_getElem hlt)).2.2
      omega
    · omega
  subst hi
  rw [List.take_length] at q2 q3
  exact ⟨q3, q2⟩
theorem PutC.put {l : Int} {b : ByteArray} {i : Nat} {A' : Hp} {P : List Dn} (h : PutC l b i A' P) (hi : i < P.length) {A : Hp} (hA : Good l b A) : putH A' (4, (P[i].1 : Int), e0) (P[i].2.1 : Int) P[i].2.2 = (setP A' P[i], 0) := by
  obtain ⟨rfl, q2⟩ := h A hA
  have hsh : shp A' = shp A := by rw [q2, shp_fold, shp_zero]
  obtain ⟨n, a, e1, e2, e3⟩ := putsOf_mem (List.getElem_mem hi)
  obtain ⟨a', g1, g2, g3⟩ := shp_at hsh e2
  have hj := (List.getElem?_eq_some_iff.1 e3).1
  have hm := ((hA.1 a (List.mem_of_getElem? e2)).2 _ (List.mem_of_getElem? e3)).1
  have hlen := shp_len hsh
  generalize (putsOf 1 A)[i] = d at *
  obtain ⟨d1, d2, d3⟩ := d
  simp only at e1 e3 hj hm ⊢
  subst e1
  rw [Nat.add_comm 1 n]
  exact putH_at g1 (by omega) (by rw [g2, hlen]; exact hm)
theorem PutC.step {l : Int} {b : ByteArray} {i : Nat} {A' : Hp} {P : List Dn} (h : PutC l b i A' P) (hi : i < P.length) : PutC l b (i + 1) (putH A' (4, (P[i].1 : Int), e0) (P[i].2.1 : Int) P[i].2.2).1 P := fun A hA => by
  have hp := h.put hi hA
  obtain ⟨rfl, q2⟩ := h A hA
  rw [hp]
  refine ⟨rfl, ?_⟩
  rw [List.take_succ_eq_append_getElem hi, List.foldl_append, ← q2]
  rfl
theorem PutC.over {l : Int} {b : ByteArray} {A' : Hp} {P : List Dn} (h : PutC l b P.length A' P) {A : Hp} (hA : Good l b A) : A' = A := by
  obtain ⟨rfl, q2⟩ := h A hA
  rw [List.take_length, zero_do] at q2
  exact q2
end Go.Proofs.YtdcioemjmmhbhaaDoor
