import Derived.Test.YtljhobjgofhldaaDoordFu
namespace Go.Proofs.YtljhobjgofhldaaDoor
open Go.RowKit

/-- The mark behind a list. -/
def mk77 : V := (77, 0, ⟨#[]⟩)
def mk78 : V := (78, 0, ⟨#[]⟩)
/-- The lists that were laid, with a mark behind each. -/
structure LsW (W : World) (b g : Nat) (Gs : List Nat) (h : Nat) (Ls : List (List V)) : Prop where
  len : Gs.length = Ls.length
  out : Full W g 35 (zipL Ls Gs ++ [.slice (some ⟨h, 0, none⟩) 1 1])
  each : ∀ k (hk : k < Gs.length) (hl : k < Ls.length), Full W Gs[k] 26 (Ls[k].flatMap vc ++ vc mk77)
  last : Full W h 26 (vc mk78)
  ge : ∀ x ∈ Gs, b ≤ x
  gb : b ≤ g
  dis : Gs.Nodup
structure LsI (w W : World) (Gs : List Nat) (Ls : List (List V)) (Z : Array Value) (i : Nat) : Prop where
  bel : Below w.heap.size w W
  len : Gs.length = i
  out : Full W w.heap.size 35 (zipL (Ls.take i) Gs ++ Z.toList.drop i)
  each : ∀ k (hk : k < Gs.length) (hl : k < Ls.length), Full W Gs[k] 26 (Ls[k].flatMap vc ++ vc mk77)
  ge : ∀ x ∈ Gs, w.heap.size ≤ x
  dis : Gs.Nodup
theorem LsI.step {w W Y : World} {Gs : List Nat} {Ls : List (List V)} {Z : Array Value} {i : Nat} (h : LsI w W Gs Ls Z i) (hi : i < Ls.length) (hZ : Z.toList.length = Ls.length + 1) (hb : Below W.heap.size W Y) (hf : Full Y W.heap.size 26 (Ls[i].flatMap vc ++ vc mk77)) :
    LsI w (Y.setCell ⟨w.heap.size, i, none⟩ (.slice (some ⟨W.heap.size, 0, none⟩) Ls[i].length (Ls[i].length + 1))) (Gs ++ [W.heap.size]) Ls Z (i + 1) := by
  have hlt : ∀ x ∈ Gs, x < W.heap.size := fun x hx => by
    obtain ⟨k, hk, rfl⟩ := List.getElem_of_mem hx
    exact (h.each k hk (by have := h.len; omega)).lt
  have hne : ∀ k (hk : k < Gs.length), Gs[k] ≠ w.heap.size := fun k hk => (h.each k hk (by have := h.len; omega)).ne h.out (by decide)
  have hg := h.out.lt
  have hln : (zipL (Ls.take i) Gs).length = i := by rw [zipL_len (by rw [List.length_take, h.len]; omega), List.length_take]; omega
  obtain ⟨z, hz⟩ := drop_one (l := Z.toList) (j := i) (by omega)
  refine ⟨(h.bel.trans (hb.mono h.bel.size)).setCell (p := ⟨w.heap.size, i, none⟩) (Nat.le_refl _) _, by rw [List.length_append, h.len]; rfl, ?_, fun k hk hl => ?_, fun x hx => ?_, ?_⟩
  · have f := h.out.low hb hg
    rw [hz] at f
    have := f.put1 (.slice (some ⟨W.heap.size, 0, none⟩) Ls[i].length (Ls[i].length + 1))
    rw [hln] at this
    rw [zipL_snoc hi h.len, List.append_assoc]
    exact this
  · rw [List.length_append, List.length_singleton] at hk
    by_cases hk' : k < Gs.length
    · rw [List.getElem_append_left hk']
      exact ((h.each k hk' hl).low hb (hlt _ (List.getElem_mem hk'))).other1 (hne k hk')
    · obtain rfl : k = i := by have := h.len; omega
      rw [List.getElem_append_right (by omega)]
      simp only [List.getElem_singleton]
      exact hf.other1 (by show W.heap.size ≠ w.heap.size; omega)
  · rcases List.mem_append.1 hx with hx | hx
    · exact h.ge x hx
    · obtain rfl : x = W.heap.size := by simpa using hx
      omega
  · rw [List.nodup_append]
    refine ⟨h.dis, by simp, fun a ha b hb => ?_⟩
    obtain rfl : b = W.heap.size := by simpa using hb
    have := hlt a ha
    omega
theorem LsI.fin {w W : World} {Gs : List Nat} {Ls : List (List V)} {Z : Array Value} (h : LsI w W Gs Ls Z Ls.length) (hZ : Z.toList.length = Ls.length + 1) :
    LsW ((W.alloc (.cells #[.int .i64 78, .int .i64 0, .string ⟨#[]⟩] 26)).setCell ⟨w.heap.size, Ls.length, none⟩ (.slice (some ⟨W.heap.size, 0, none⟩) 1 1)) w.heap.size w.heap.size Gs W.heap.size Ls ∧ Below w.heap.size w ((W.alloc (.cells #[.int .i64 78, .int .i64 0, .string ⟨#[]⟩] 26)).setCell ⟨w.heap.size, Ls.length, none⟩ (.slice (some ⟨W.heap.size, 0, none⟩) 1 1)) := by
  have nb : Below W.heap.size W (W.alloc (.cells #[.int .i64 78, .int .i64 0, .string ⟨#[]⟩] 26)) := (Below.refl _ W).alloc (Nat.le_refl _) _
  have hg := h.out.lt
  have hln : (zipL Ls Gs).length = Ls.length := zipL_len h.len
  obtain ⟨z, hz⟩ := drop_one (l := Z.toList) (j := Ls.length) (by omega)
  refine ⟨⟨h.len, ?_, fun k hk hl => ((h.each k hk hl).next nb).other1 ((h.each k hk hl).ne h.out (by decide)), ?_, h.ge, Nat.le_refl _, h.dis⟩, (h.bel.trans (nb.mono h.bel.size)).setCell (p := ⟨w.heap.size, Ls.length, none⟩) (Nat.le_refl _) _⟩
  · have f := h.out.next nb
    rw [hz, List.take_length, List.drop_eq_nil_of_le (by omega)] at f
    have := f.put1 (.slice (some ⟨W.heap.size, 0, none⟩) 1 1)
    rw [hln] at this
    exact this
  · exact (Full.new W #[.int .i64 78, .int .i64 0, .string ⟨#[]⟩] 26).other1 (by show W.heap.size ≠ w.heap.size; omega)
/-- One list's block while it is filled. -/
def FlI (wo wr : World) (L : List V) (Z : Array Value) (j : Nat) : Prop := Full wr wo.heap.size 26 ((L.take j).flatMap vc ++ Z.toList.drop (j * 3)) ∧ Below wo.heap.size wo wr
theorem FlI.step {wo wr : World} {L : List V} {Z : Array Value} {j : Nat} (h : FlI wo wr L Z j) (hj : j < L.length) (hZ : Z.size = (L.length + 1) * 3) : FlI wo (wr.setCells wo.heap.size (j * 3) (vc L[j])) L Z (j + 1) := by
  have hl : ((L.take j).flatMap vc).length = j * 3 := by rw [vc_len, List.length_take]; omega
  refine ⟨?_, below_sets h.2 (Nat.le_refl _) _ _⟩
  have f := h.1
  rw [drop_parts Z.toList (j * 3) 3] at f
  have := f.put (vc L[j]) (by show 3 = _; rw [List.length_take, List.length_drop, Array.length_toList, hZ]; omega)
  rw [hl] at this
  rw [flat_snoc vc hj, List.append_assoc, show (j + 1) * 3 = j * 3 + 3 by omega]
  exact this
theorem FlI.mark {wo wr : World} {L : List V} {Z : Array Value} (h : FlI wo wr L Z L.length) (hZ : Z.size = (L.length + 1) * 3) : Full (wr.setCells wo.heap.size (L.length * 3) (vc mk77)) wo.heap.size 26 (L.flatMap vc ++ vc mk77) ∧ Below wo.heap.size wo (wr.setCells wo.heap.size (L.length * 3) (vc mk77)) := by
  refine ⟨?_, below_sets h.2 (Nat.le_refl _) _ _⟩
  have f := h.1
  rw [List.take_length, drop_parts Z.toList (L.length * 3) 3] at f
  have := f.put (vc mk77) (by show 3 = _; rw [List.length_take, List.length_drop, Array.length_toList, hZ]; omega)
  rw [vc_len, List.drop_eq_nil_of_le (by rw [Array.length_toList, hZ]; omega), List.append_nil] at this
  exact this
theorem FlI.th {wo wr : World} {L : List V} {Z : Array Value} {j : Nat} (h : FlI wo wr L Z j) (hj : j ≤ L.length) (hZ : Z.size = (L.length + 1) * 3) : wr.there wo.heap.size (j * 3) 3 :=
  h.1.there _ _ (by have hz : Z.toList.length = (L.length + 1) * 3 := by rw [Array.length_toList, hZ]
                    rw [List.length_append, vc_len, List.length_take, List.length_drop, hz]; omega)
end Go.Proofs.YtljhobjgofhldaaDoor
