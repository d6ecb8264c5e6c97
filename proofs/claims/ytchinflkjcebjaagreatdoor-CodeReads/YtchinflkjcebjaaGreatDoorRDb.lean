import Derived.Test.YtchinflkjcebjaaGreatDoorRDa
namespace Go.Proofs.YtchinflkjcebjaaGreatDoor
open Go.RowKit

/-! What the reference's Decode reads, over a list and a place in it. -/
def byN (l : List UInt8) (p : Nat) : Int := ((l.getD p 0).toNat : Int)
def ldSo (l : List UInt8) (p k : Nat) : List Int := (List.range k).map (fun i => byN l (p + i))
def ldK (l : List UInt8) (p : Nat) : Nat := (l.getD (ldQ l p + 5) 0).toNat
def ldE (l : List UInt8) (p : Nat) : En := ⟨YtchinflkjcebjaaGreatDoor.bk (ldT l p), numV (padL l (ldQ l p) 4), byN l (ldQ l p + 4), ldSo l (ldQ l p + 6) (ldK l p), byN l (ldQ l p + 6 + ldK l p)⟩
def ldEq (l : List UInt8) (p : Nat) : Nat := ldQ l p + 6 + ldK l p + 1
def wdA (l : List UInt8) (p : Nat) : Nat := shWd.getD (opA.getD (l.getD p 0).toNat 0) 0
def wdB (l : List UInt8) (p : Nat) : Nat := shWd.getD (opB.getD (l.getD p 0).toNat 0) 0
def ldI (l : List UInt8) (p : Nat) : In := (byN l p, numV (padL l (p + 1) (wdA l p)), numV (padL l (p + 1 + wdA l p) (wdB l p)))
def ldIq (l : List UInt8) (p : Nat) : Nat := p + 1 + wdA l p + wdB l p
/-- So many in a row, as long as something is there. -/
def ldR {α : Type} (f : Nat → α) (g : Nat → Nat) (m : Nat) : Nat → Nat → List α × Nat
  | 0, p => ([], p)
  | n + 1, p => if p < m then (f p :: (ldR f g m n (g p)).1, (ldR f g m n (g p)).2) else ([], p)
/-- The instructions; nothing where one has no such operation. -/
def ldJ (l : List UInt8) : Nat → Nat → Option (List In)
  | 0, _ => some []
  | n + 1, p => if p < l.length then (if 24 ≤ byN l p then none else (ldJ l n (ldIq l p)).map (ldI l p :: ·)) else some []
def ldEs (l : List UInt8) : List En × Nat := ldR (ldE l) (ldEq l) l.length (l.getD 2 0).toNat 3
def ldTs (l : List UInt8) : List ByteArray × Nat := ldR (fun p => YtchinflkjcebjaaGreatDoor.bk (ldT l p)) (ldQ l) l.length (numV (padL l (ldEs l).2 2)).toNat ((ldEs l).2 + 2)
def ldC (l : List UInt8) : Option Cd := (ldJ l (numV (padL l (ldTs l).2 4)).toNat ((ldTs l).2 + 4)).map fun i => ⟨i, (ldEs l).1, (ldTs l).1, byN l 1⟩

theorem pad_at {l X b : List UInt8} {p k : Nat} (h : l.drop p = X ++ b) (hk : X.length = k) : padL l p k = X ∧ l.drop (p + k) = b := by
  constructor
  · unfold padL
    refine List.ext_getElem (by simp [hk]) fun i h1 h2 => ?_
    rw [List.getElem_map, List.getElem_range, List.getD_eq_getElem?_getD, ← List.getElem?_drop, h, List.getElem?_append_left h2, List.getElem?_eq_getElem h2]
    rfl
  · rw [← List.drop_drop, h, ← hk, List.drop_left]
theorem by_at {l b : List UInt8} {p : Nat} {n : Int} (h : l.drop p = byteOf n :: b) (h0 : 0 ≤ n) (h1 : n < 256) : byN l p = n ∧ l.drop (p + 1) = b := by
  obtain ⟨a1, a2⟩ := pad_at (X := [byteOf n]) (k := 1) h rfl
  refine ⟨?_, a2⟩
  have e := pad1 l p
  rw [a1] at e
  unfold byN
  rw [← e]
  show wrap64 (0 * 256) + ((byteOf n).toNat : Int) = n
  rw [byteOf_nat]
  unfold wrap64
  omega
theorem tx_at {l b : List UInt8} {p : Nat} {t : ByteArray} (h : l.drop p = txB t ++ b) (ht : t.size < 256) : YtchinflkjcebjaaGreatDoor.bk (ldT l p) = t ∧ l.drop (ldQ l p) = b := by
  unfold txB at h
  obtain ⟨a1, a2⟩ := by_at h (by omega) (by omega)
  have hn : (l.getD p 0).toNat = t.size := by unfold byN at a1; omega
  have e1 : t.data.toList.length = t.size := Array.length_toList (xs := t.data)
  unfold ldT ldQ
  rw [hn, a2]
  refine ⟨?_, ?_⟩
  · rw [← e1]
    rw [show (t.data.toList.append b).take t.data.toList.length = t.data.toList from List.take_left, bk_all]
  · rw [← List.drop_drop, a2, ← e1]
    exact List.drop_left
theorem so_at : ∀ {so : List Int} {l b : List UInt8} {p : Nat}, l.drop p = so.map byteOf ++ b → (∀ x ∈ so, 0 ≤ x ∧ x < 256) → ldSo l p so.length = so ∧ l.drop (p + so.length) = b := by
  intro so l b p h hs
  obtain ⟨a1, a2⟩ := pad_at h (k := so.length) (by simp)
  refine ⟨?_, a2⟩
  refine List.ext_getElem (by simp [ldSo]) fun i h1 h2 => ?_
  have hb := hs _ (List.getElem_mem h2)
  have e : (padL l p so.length)[i]? = some (byteOf so[i]) := by
    rw [a1, List.getElem?_map, List.getElem?_eq_getElem h2]
    rfl
  unfold padL at e
  rw [List.getElem?_map, List.getElem?_range h2] at e
  have e' : l.getD (p + i) 0 = byteOf so[i] := Option.some.inj e
  have e2 : (ldSo l p so.length)[i]? = some (byN l (p + i)) := by
    unfold ldSo
    rw [List.getElem?_map, List.getElem?_range h2]
    rfl
  rw [List.getElem?_eq_getElem h1] at e2
  rw [Option.some.inj e2]
  unfold byN
  rw [e', byteOf_nat]
  omega
theorem e_at {l b : List UInt8} {p : Nat} {e : En} (h : l.drop p = entB e ++ b) (he : entS e = true) (h0 : 0 ≤ e.start) (h1 : e.start < 60000) : ldE l p = e ∧ l.drop (ldEq l p) = b := by
  have k := ent_ok.1 he
  have hn := name_len k.nm
  have hsz : e.name.size < 256 := by rw [Lib.size_eq]; omega
  have hr : 0 ≤ e.result ∧ e.result < 256 := by
    rcases k.rs with q | q
    · omega
    · have := sort_rng q; omega
  have h8 := k.p8
  have hsl := k.sl
  unfold entB at h
  simp only [List.append_assoc, List.cons_append, List.nil_append] at h
  obtain ⟨a1, a2⟩ := tx_at h hsz
  obtain ⟨b1, b2⟩ := pad_at a2 (numB_len _ 4)
  obtain ⟨c1, c2⟩ := by_at b2 k.p0 (by omega)
  obtain ⟨d1, d2⟩ := by_at c2 (by omega) (by omega)
  have hk : ldK l p = e.sorts.length := by unfold ldK; unfold byN at d1; rw [show ldQ l p + 5 = ldQ l p + 4 + 1 from rfl]; omega
  obtain ⟨f1, f2⟩ := so_at d2 (fun x hx => by have := sort_rng (k.ss x hx); omega)
  obtain ⟨g1, g2⟩ := by_at f2 hr.1 hr.2
  unfold ldE ldEq
  rw [hk, a1, b1, c1, f1, g1, nv4, Int.emod_eq_of_lt h0 (by omega)]
  exact ⟨rfl, g2⟩
theorem i_at {l b : List UInt8} {p : Nat} {x : In} (h : l.drop p = insB x ++ b) (hx : insS x = true) : byN l p = x.1 ∧ ldI l p = x ∧ l.drop (ldIq l p) = b := by
  unfold insS at hx
  simp only [Bool.and_eq_true, decide_eq_true_eq] at hx
  obtain ⟨h1, h2, h3, h4⟩ := hx
  unfold insB at h
  simp only [List.append_assoc, List.cons_append] at h
  obtain ⟨a1, a2⟩ := by_at h h1 (by omega)
  have hn : (l.getD p 0).toNat = x.1.toNat := by unfold byN at a1; omega
  have hA : wdA l p = shWd.getD (opA.getD x.1.toNat 0) 0 := by unfold wdA; rw [hn]
  have hB : wdB l p = shWd.getD (opB.getD x.1.toNat 0) 0 := by unfold wdB; rw [hn]
  obtain ⟨b1, b2⟩ := pad_at a2 (by rw [numB_len, hA] : _ = wdA l p)
  obtain ⟨c1, c2⟩ := pad_at b2 (by rw [numB_len, hB] : _ = wdB l p)
  have e1 := wd_may (opA_lt _) h3 []
  have e2 := wd_may (opB_lt _) h4 []
  rw [rdN_app] at e1 e2
  refine ⟨a1, ?_, c2⟩
  unfold ldI
  have e3 : numV (numB x.2.1 (shWd.getD (opA.getD x.1.toNat 0) 0)) = x.2.1 := congrArg Prod.fst e1
  have e4 : numV (numB x.2.2 (shWd.getD (opB.getD x.1.toNat 0) 0)) = x.2.2 := congrArg Prod.fst e2
  rw [a1, b1, c1, e3, e4]
theorem r_at {α : Type} (f : Nat → α) (g : Nat → Nat) (B : α → List UInt8) (l : List UInt8) : ∀ (xs : List α) (b : List UInt8) (p : Nat), l.drop p = xs.flatMap B ++ b → (∀ x ∈ xs, ∀ p b, l.drop p = B x ++ b → B x ≠ [] ∧ f p = x ∧ l.drop (g p) = b) → (ldR f g l.length xs.length p).1 = xs ∧ l.drop (ldR f g l.length xs.length p).2 = b
  | [], b, p, h, _ => ⟨rfl, h⟩
  | x :: xs, b, p, h, hx => by
    rw [List.flatMap_cons, List.append_assoc] at h
    obtain ⟨h0, h1, h2⟩ := hx x (List.mem_cons_self ..) p _ h
    have hp : p < l.length := by
      rcases Nat.lt_or_ge p l.length with q | q
      · exact q
      · rw [List.drop_eq_nil_of_le q] at h
        have := congrArg List.length h
        rw [List.length_append] at this
        have h3 := List.length_pos_iff.2 h0
        simp only [List.length_nil] at this
        omega
    obtain ⟨k1, k2⟩ := r_at f g B l xs b (g p) h2 (fun y hy => hx y (List.mem_cons_of_mem _ hy))
    rw [List.length_cons, ldR, if_pos hp]
    exact ⟨by rw [h1, k1], k2⟩
theorem j_at (l : List UInt8) : ∀ (xs : List In) (p : Nat), l.drop p = xs.flatMap insB → (∀ x ∈ xs, insS x = true) → ldJ l xs.length p = some xs
  | [], p, h, _ => rfl
  | x :: xs, p, h, hx => by
    rw [List.flatMap_cons] at h
    have hi := hx x (List.mem_cons_self ..)
    obtain ⟨h0, h1, h2⟩ := i_at h hi
    have hp : p < l.length := by
      rcases Nat.lt_or_ge p l.length with q | q
      · exact q
      · rw [List.drop_eq_nil_of_le q] at h
        cases h
    have k := j_at l xs (ldIq l p) h2 (fun y hy => hx y (List.mem_cons_of_mem _ hy))
    have h24 : ¬ 24 ≤ byN l p := by
      unfold insS at hi
      simp only [Bool.and_eq_true, decide_eq_true_eq] at hi
      rw [h0]
      omega
    rw [List.length_cons, ldJ, if_pos hp, if_neg h24, k, h1]
    rfl
/-- A code that may be is read from its bytes. -/
theorem ld_enc {c : Cd} (h : validS c = 0) : ldC (encS c) = some c := by
  have k := code_ok.1 h
  have hel := k.el
  have hil := k.il
  have htl := k.tl
  have hml := k.ml
  have h1 : (encS c).drop 1 = byteOf c.main :: (encS c).drop 2 := rfl
  obtain ⟨a1, -⟩ := by_at h1 k.m0 (by omega)
  have h2 : (encS c).drop 2 = byteOf (c.ens.length : Int) :: (encS c).drop 3 := rfl
  obtain ⟨b1, -⟩ := by_at h2 (by omega) (by omega)
  have hn : ((encS c).getD 2 0).toNat = c.ens.length := by unfold byN at b1; omega
  have h3 : (encS c).drop 3 = c.ens.flatMap entB ++ (numB (c.txs.length : Int) 2 ++ (c.txs.flatMap txB ++ (numB (c.ins.length : Int) 4 ++ c.ins.flatMap insB))) := rfl
  generalize encS c = l at *
  obtain ⟨c1, c2⟩ := r_at (ldE l) (ldEq l) entB l c.ens _ 3 h3 (fun e he p b hd => ⟨by unfold entB txB; simp, e_at hd (k.es e he) (st_mem k.st he).1 (by have := (st_mem k.st he).2; omega)⟩)
  have hE : ldEs l = ldR (ldE l) (ldEq l) l.length c.ens.length 3 := by unfold ldEs; rw [hn]
  rw [← hE] at c1 c2
  obtain ⟨d1, d2⟩ := pad_at c2 (numB_len _ 2)
  have hT : ldTs l = ldR (fun p => YtchinflkjcebjaaGreatDoor.bk (ldT l p)) (ldQ l) l.length c.txs.length ((ldEs l).2 + 2) := by
    unfold ldTs
    rw [d1, nv2, Int.emod_eq_of_lt (by omega) (by omega), Int.toNat_natCast]
  obtain ⟨f1, f2⟩ := r_at (fun p => YtchinflkjcebjaaGreatDoor.bk (ldT l p)) (ldQ l) txB l c.txs _ _ d2 (fun t ht p b hd => ⟨by unfold txB; simp, tx_at hd (by have := k.ts t ht; omega)⟩)
  rw [← hT] at f1 f2
  obtain ⟨g1, g2⟩ := pad_at f2 (numB_len _ 4)
  have j := j_at l c.ins _ g2 k.is
  unfold ldC
  rw [g1, nv4, Int.emod_eq_of_lt (by omega) (by omega), Int.toNat_natCast, j, c1, f1, a1]
  rfl
/-- What the reference answers is what Decode answers. -/
theorem ld_dec (l : List UInt8) : decS l = match ldC l with
    | none => none
    | some c => if validS c = 0 ∧ encS c = l then some c else none := by
  cases hd : decS l with
  | some c =>
    obtain ⟨h2, h1⟩ := enc_dec hd
    rw [← h2, ld_enc h1]
    simp only
    rw [if_pos ⟨h1, trivial⟩]
  | none =>
    cases hl : ldC l with
    | none => rfl
    | some c =>
      simp only
      rw [if_neg]
      rintro ⟨h1, h2⟩
      have := dec_enc h1
      rw [h2, hd] at this
      cases this
end Go.Proofs.YtchinflkjcebjaaGreatDoor
