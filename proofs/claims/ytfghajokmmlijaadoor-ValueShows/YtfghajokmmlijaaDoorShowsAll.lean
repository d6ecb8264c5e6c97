import Derived.Test.YtfghajokmmlijaaDoorShows
import Derived.Test.YtfghajokmmlijaaDoorOMath
namespace Go.Proofs.YtfghajokmmlijaaDoor
open Go.RowKit

theorem show_size (k n : Int) (s : ByteArray) (hn : -9223372036854775808 ≤ n ∧ n ≤ 9223372036854775807) : (showS k n s).size ≤ 10000 := by
  cases h : okV k n s with
  | false =>
    rw [show showS k n s = ⟨#[63]⟩ by unfold showS; rw [h]; rfl]
    decide
  | true =>
    rw [show (showS k n s).size = (showS k n s).data.toList.length by rw [Array.length_toList]; rfl, show_list h]
    rcases ok_parts h with ⟨rfl, _⟩ | ⟨rfl, _⟩ | ⟨rfl, hb, _⟩ | ⟨rfl, _, hs⟩ | ⟨rfl, _⟩
    · show ([45] : List UInt8).length ≤ _
      decide
    · show (Lib.itoa n).length ≤ _
      have := Lib.itoa_length_le n hn.1 hn.2
      omega
    · rcases hb with rfl | rfl
      · show (Lib.formatBool false).length ≤ _
        decide
      · show (Lib.formatBool true).length ≤ _
        decide
    · show (Lx.qt s.data.toList).length ≤ _
      unfold Lx.qt
      have h1 := Lx.pcs_len s.data.toList
      have h2 : s.data.toList.length = s.size := by rw [Array.length_toList]; rfl
      simp only [List.length_cons, List.length_append, List.length_nil]
      omega
    · show (35 :: Lib.itoa n).length ≤ _
      have := Lib.itoa_length_le n hn.1 hn.2
      simp only [List.length_cons]
      omega

theorem shows_any (op kd k n : Int) (s : ByteArray) (k' n' : Int) (s' : ByteArray) (k2 n2 : Int) (s2 : ByteArray) (w : World) (hs : s.size ≤ 9223372036854775807) (hs' : s'.size ≤ 9223372036854775807)
    (hn : -9223372036854775808 ≤ n ∧ n ≤ 9223372036854775807) (hn' : -9223372036854775808 ≤ n' ∧ n' ≤ 9223372036854775807) (ht : Tab10 w) :
    Calls Tryd.prog 3 #[.agg #[.int .i64 op, .int .i64 kd, .int .i64 k, .int .i64 n, .string s, .int .i64 k', .int .i64 n', .string s', .int .i64 k2, .int .i64 n2, .string s2]] w fun e w' => e = .returned (.bool true) ∧ Below w.heap.size w w' := by
  have key : ∀ (k n : Int) (s : ByteArray), ((showS k n s).toList == [63]) = !okV k n s := fun k n s => by
    cases h : okV k n s with
    | false =>
      rw [show showS k n s = ⟨#[63]⟩ by unfold showS; rw [h]; rfl, ByteArray.toList_eq]
      rfl
    | true =>
      have h1 := show_q h
      have h2 : (showS k n s).toList ≠ [63] := fun e => h1 (list_inj (by rw [e, ByteArray.toList_eq]))
      simp [h2]
  have hz := show_size k n s hn
  refine shows_core op kd k n s k' n' s' k2 n2 s2 w (showS k n s) (showS k' n' s') (strS k n s) (okV k n s) (okV k' n' s') ((showS k n s).toList == (showS k' n' s').toList) ht
    (fun W hT => show_any k n s W hs hn hT) (fun W hT => show_any k' n' s' W hs' hn' hT) (fun W => valid_any k n s W hs) (fun W => valid_any k' n' s' W hs') (fun W hT => str_any k n s W hs hn hT)
    (key k n s) (key k' n' s') (fun ha hb => ⟨rfl, ?_⟩) (by omega) (fun i h => ?_) ⟨hz, hs⟩ ⟨fun h => ?_, fun h => ⟨fun hk => ?_, fun hk => ?_, fun h12 h3 => ?_⟩⟩
  · cases hq : ((showS k n s).toList == (showS k' n' s').toList) with
    | true =>
      obtain ⟨rfl, rfl, rfl⟩ := show_inj ha hb (list_inj (by simpa using hq))
      simp
    | false =>
      rw [Bool.eq_false_iff]
      intro h1
      simp only [Bool.and_eq_true, beq_iff_eq] at h1
      obtain ⟨⟨rfl, rfl⟩, h3⟩ := h1
      rw [list_inj h3] at hq
      simp at hq
  · refine show_bytes k n s _ ?_
    show (showS k n s).data[i]'h ∈ _
    exact Array.getElem_mem_toList h
  · unfold strS
    rw [h]
    rfl
  · have e : strS k n s = showS k n s := by
      unfold showS
      rw [if_pos h]
      rcases hk with rfl | rfl <;> rfl
    refine ⟨e, ?_⟩
    rw [ByteArray.toList_eq, show_list h]
    rcases hk with rfl | rfl
    · exact itoa_ne n
    · rcases ok_parts h with ⟨e, _⟩ | ⟨e, _⟩ | ⟨_, hb, _⟩ | ⟨e, _⟩ | ⟨e, _⟩
      · exact absurd e (by decide)
      · exact absurd e (by decide)
      · rcases hb with rfl | rfl
        · show Lib.formatBool false ≠ []
          decide
        · show Lib.formatBool true ≠ []
          decide
      · exact absurd e (by decide)
      · exact absurd e (by decide)
  · subst hk
    refine ⟨?_, str_size h, show_len h⟩
    unfold strS
    rw [if_pos h]
    rfl
  · unfold strS
    rw [if_pos h, if_neg (fun e => h12 (Or.inl e)), if_neg (fun e => h12 (Or.inr e)), if_neg h3]
end Go.Proofs.YtfghajokmmlijaaDoor
