import Derived.Test.YtljhobjgofhldaaDoordLf
namespace Go.Proofs.YtljhobjgofhldaaDoor
open Go.RowKit

/-- Another number of the same kind. -/
def anN (k n : Int) : Int := if (k == 1) = true then wrap64 (n + 1) else if (k == 2) = true then wrap64 (1 - n) else n
theorem anN_in {k n : Int} {s : ByteArray} (h : vIn (k, n, s)) : vIn (k, anN k n, s) := by
  refine ⟨?_, h.2⟩
  show -9223372036854775808 ≤ anN k n ∧ anN k n ≤ 9223372036854775807
  unfold anN
  split
  · exact wrap_rng _
  · split
    · exact wrap_rng _
    · exact h.1
set_option maxRecDepth 100000 in
set_option maxHeartbeats 4000000 in
theorem another_any (k n : Int) (s : ByteArray) (w : World) :
    Calls Tryd.prog 14 #[.agg #[.int .i64 k, .int .i64 n, .string s]] w fun e w' => e = .returned (.agg #[.int .i64 k, .int .i64 (anN k n), .string s]) ∧ Below w.heap.size w w' := by
  have BB : Hid (∀ m : Int, Below w.heap.size w ((w.alloc (.cells #[.int .i64 k, .int .i64 m, .string s] 26)).alloc (.cells #[.int .i64 k, .int .i64 m, .string s] 26))) := fun m => ((Below.refl _ w).alloc (Nat.le_refl _) _).alloc (((Below.refl _ w).alloc (Nat.le_refl _) _).size) _
  obtain ⟨N, hN⟩ : ∃ N, anN k n = N := ⟨_, rfl⟩
  have HN : Hid (anN k n = N) := hN
  rw [hN]
  clear hN
  go_enter Tryd.func14, Tryd.ntmps14
  go_wp2
  · rename_i h1
    obtain rfl : N = wrap64 (n + 1) := by rw [← HN.out, anN, if_pos h1]
    exact bodyPost_ret (v := .agg #[.int .i64 k, .int .i64 (wrap64 (n + 1)), .string s]) (by simp [results, Tryd.results14, go_sem]) rfl ⟨rfl, BB.out _⟩
  · rename_i h1 h2
    obtain rfl : N = wrap64 (1 - n) := by rw [← HN.out, anN, if_neg (by simp [h1]), if_pos h2]
    exact bodyPost_ret (v := .agg #[.int .i64 k, .int .i64 (wrap64 (1 - n)), .string s]) (by simp [results, Tryd.results14, go_sem]) rfl ⟨rfl, BB.out _⟩
  · rename_i h1 h2
    obtain rfl : N = n := by rw [← HN.out, anN, if_neg (by simp [h1]), if_neg (by simp [h2])]
    exact bodyPost_ret (v := .agg #[.int .i64 k, .int .i64 N, .string s]) (by simp [results, Tryd.results14, go_sem]) rfl ⟨rfl, BB.out _⟩
theorem callAn (a : Value) (w : World) : (callFunc 14 #[a]).run Tryd.prog w = .ok (.enter 14 #[a]) w := by kernel_rfl
/-- Lists of the law's own, each in its block. -/
structure LsM (W : World) (b g : Nat) (Gs : List Nat) (Ls : List (List V)) : Prop where
  len : Gs.length = Ls.length
  out : ∃ z, Full W g 35 (zipL Ls Gs ++ z)
  each : ∀ k (hk : k < Gs.length) (hl : k < Ls.length), ∃ r, Full W Gs[k] 26 (Ls[k].flatMap vc ++ r)
  ge : ∀ x ∈ Gs, b ≤ x
  gb : b ≤ g
  dis : Gs.Nodup
  vin : ∀ L ∈ Ls, ∀ v ∈ L, vIn v
theorem LsW.m {W : World} {b g : Nat} {Gs : List Nat} {h : Nat} {Ls : List (List V)} (x : LsW W b g Gs h Ls) (hv : ∀ L ∈ Ls, ∀ v ∈ L, vIn v) : LsM W b g Gs Ls := ⟨x.len, ⟨_, x.out⟩, fun k hk hl => ⟨_, x.each k hk hl⟩, x.ge, x.gb, x.dis, hv⟩
theorem LsW.next {W W' : World} {b g : Nat} {Gs : List Nat} {h : Nat} {Ls : List (List V)} (x : LsW W b g Gs h Ls) (k : Below W.heap.size W W') : LsW W' b g Gs h Ls := ⟨x.len, x.out.next k, fun i hi hl => (x.each i hi hl).next k, x.last.next k, x.ge, x.gb, x.dis⟩
theorem LsM.next {W W' : World} {b g : Nat} {Gs : List Nat} {Ls : List (List V)} (x : LsM W b g Gs Ls) (k : Below W.heap.size W W') : LsM W' b g Gs Ls := by
  obtain ⟨z, hz⟩ := x.out
  exact ⟨x.len, ⟨z, hz.next k⟩, fun i hi hl => by obtain ⟨r, hr⟩ := x.each i hi hl; exact ⟨r, hr.next k⟩, x.ge, x.gb, x.dis, x.vin⟩
theorem LsM.arr {W : World} {b g : Nat} {Gs : List Nat} {Ls : List (List V)} (x : LsM W b g Gs Ls) : ArrAt W W.heap.size (some ⟨g, 0, none⟩) Ls := fun n hn => by
  have hg : n < Gs.length := by rw [x.len]; exact hn
  obtain ⟨z, hz⟩ := x.out
  obtain ⟨r, hr⟩ := x.each n hg hn
  refine ⟨g, 0, some ⟨Gs[n], 0, none⟩, Ls[n].length + 1, rfl, hz.lt, ?_, by omega, fun j hj => ⟨Gs[n], 0, rfl, hr.lt, x.vin _ (List.getElem_mem hn) _ (List.getElem_mem hj), ?_⟩⟩
  · rw [Nat.zero_add]
    refine (hz.cell n _ ?_).1
    rw [List.getElem?_append_left (by rw [zipL_len x.len]; exact hn), zipL_at hn hg]
  · rw [Nat.zero_add, Nat.mul_comm 3 j]
    exact hr.thr j hj
theorem zipL_set {Ls : List (List V)} {Gs : List Nat} {i : Nat} {L : List V} (hi : i < Ls.length) (hL : L.length = Ls[i].length) : zipL (Ls.set i L) Gs = zipL Ls Gs := by
  refine List.ext_getElem? fun k => ?_
  unfold zipL
  rw [List.getElem?_zipWith, List.getElem?_zipWith, List.getElem?_set]
  by_cases h : i = k
  · subst h
    rw [if_pos rfl, if_pos hi, List.getElem?_eq_getElem hi]
    cases Gs[i]? with
    | none => rfl
    | some x => simp [hL]
  · rw [if_neg h]
theorem flat_set {L : List V} {j : Nat} (hj : j < L.length) (v : V) : (L.set j v).flatMap vc = (L.take j).flatMap vc ++ (vc v ++ (L.drop (j + 1)).flatMap vc) := by
  rw [List.set_eq_take_append_cons_drop, if_pos hj, List.flatMap_append, List.flatMap_cons]
theorem LsM.put {W : World} {b g : Nat} {Gs : List Nat} {Ls : List (List V)} (x : LsM W b g Gs Ls) (i : Nat) (hi : i < Ls.length) (hg : i < Gs.length) (j : Nat) (hj : j < Ls[i].length) (v : V) (hv : vIn v) : LsM (W.setCells Gs[i] (j * 3) (vc v)) b g Gs (Ls.set i (Ls[i].set j v)) := by
  obtain ⟨z, hz⟩ := x.out
  obtain ⟨ri, hri⟩ := x.each i hg hi
  refine ⟨by rw [List.length_set]; exact x.len, ⟨z, ?_⟩, fun k hk hl => ?_, x.ge, x.gb, x.dis, fun L hL u hu => ?_⟩
  · rw [zipL_set hi (by rw [List.length_set])]
    exact hz.other (hz.ne hri (by decide))
  · have hl' : k < Ls.length := by rw [List.length_set] at hl; exact hl
    by_cases hki : k = i
    · subst hki
      refine ⟨ri, ?_⟩
      rw [List.getElem_set_self, flat_set hj, List.append_assoc, List.append_assoc]
      have e : Ls[k].flatMap vc ++ ri = (Ls[k].take j).flatMap vc ++ (vc Ls[k][j] ++ ((Ls[k].drop (j + 1)).flatMap vc ++ ri)) := by
        rw [← List.append_assoc, ← List.append_assoc]
        congr 1
        rw [← flat_snoc vc hj, ← List.flatMap_append, List.take_append_drop]
      rw [e] at hri
      have := hri.put (vc v) rfl
      rw [vc_len, List.length_take, Nat.min_eq_left (by omega)] at this
      exact this
    · obtain ⟨r, hr⟩ := x.each k hk hl'
      refine ⟨r, ?_⟩
      rw [List.getElem_set_ne (fun e => hki e.symm)]
      exact hr.other fun e => hki ((List.getElem_inj x.dis).1 e)
  · rcases List.mem_or_eq_of_mem_set hL with h | h
    · exact x.vin L h u hu
    · subst h
      rcases List.mem_or_eq_of_mem_set hu with h | h
      · exact x.vin _ (List.getElem_mem hi) u h
      · subst h; exact hv
theorem LsM.bel {W W0 : World} {b g : Nat} {Gs : List Nat} {Ls : List (List V)} (x : LsM W b g Gs Ls) (h : Below b W0 W) (i : Nat) (hg : i < Gs.length) (o : Nat) (vs : List Value) : Below b W0 (W.setCells Gs[i] o vs) := below_sets h (x.ge _ (List.getElem_mem hg)) _ _
end Go.Proofs.YtljhobjgofhldaaDoor
