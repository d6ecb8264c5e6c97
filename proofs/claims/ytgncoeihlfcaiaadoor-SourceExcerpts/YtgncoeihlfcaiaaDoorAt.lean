import Derived.Test.YtgncoeihlfcaiaaDoorWhere
import Derived.Test.YtgncoeihlfcaiaaDoorPlace
namespace Go.Proofs.YtgncoeihlfcaiaaDoor
open Go.RowKit Go.Shelf

theorem lastP_cons (x : Nat × ByteArray) (r : List (Nat × ByteArray)) (h : r ≠ []) : lastP (x :: r) = lastP r := by
  unfold lastP
  cases r with
  | nil => exact absurd rfl h
  | cons y t => rw [List.getLast?_cons_cons]

theorem rows_ne {k : Nat} {l : List (List UInt8)} (h : l ≠ []) : Src.rows k l ≠ [] := by
  cases l with
  | nil => exact absurd rfl h
  | cons a r => simp [Src.rows]

theorem lastP_rows (l : List UInt8) : ∀ k, lastP (Src.rows k (Src.lns l)) = (((Src.plf (k, 1) l).1 : Int), wrap64 ((Src.plf (k, 1) l).2 : Int)) := by
  refine Src.lineInd (P := fun l => ∀ k, lastP (Src.rows k (Src.lns l)) = (((Src.plf (k, 1) l).1 : Int), wrap64 ((Src.plf (k, 1) l).2 : Int))) ?_ ?_ l.length l (Nat.le_refl _)
  · intro l h k
    rw [Src.lns_none h, Src.plf_none _ h]
    show lastP ([] ++ [(k, (⟨l.toArray⟩ : ByteArray))]) = _
    rw [lastP_snoc]
    have e : ((⟨l.toArray⟩ : ByteArray).size : Int) + 1 = ((1 + l.length : Nat) : Int) := by
      rw [Lib.size_eq]; simp; omega
    rw [e]
  · intro a b h ih k
    rw [Src.lns_cut b h, Src.plf_cut _ _ h]
    show lastP ((k, (⟨a.toArray⟩ : ByteArray)) :: Src.rows (k + 1) (Src.lns b)) = _
    rw [lastP_cons _ _ (rows_ne (Src.lns_ne b))]
    exact ih (k + 1)

theorem wrap_small (x : Int) (h0 : 0 ≤ x) (h1 : x ≤ 140737488355329) : wrap64 x = x := by
  unfold wrap64; omega

/-- Where, at an offset of the text. -/
theorem where_at (s : ByteArray) (k : Nat) (L C : Int) (w : World) (hs : s.size ≤ 140737488355328) (hk : k ≤ s.size) (hp : Hid (((Src.pl (s.data.toList.take k)).1 : Int) = L ∧ ((Src.pl (s.data.toList.take k)).2 : Int) = C)) :
    Calls Tryd.prog 8 #[.string s, .int .i64 (k : Int)] w fun e w' => e = .returned (.tuple #[.agg #[.int .i64 L, .int .i64 C], .int .i64 0]) ∧ Below w.heap.size w w' := by
  have h := where_yes s k w hs hk
  have e1 : (s.extract 0 k).data.toList = s.data.toList.take k := by rw [Lib.extract_eq]; simp
  rw [e1, lastP_rows] at h
  obtain ⟨h1, h2⟩ := hp.out
  have hle := Src.pl_le (s.data.toList.take k)
  have hl : (s.data.toList.take k).length ≤ k := List.length_take_le _ _
  change Calls Tryd.prog 8 _ w fun e w' => e = .returned (.tuple #[.agg #[.int .i64 ((Src.pl (s.data.toList.take k)).1 : Int), .int .i64 (wrap64 ((Src.pl (s.data.toList.take k)).2 : Int))], .int .i64 0]) ∧ Below w.heap.size w w' at h
  rw [wrap_small _ (by omega) (by omega), h1, h2] at h
  exact h

theorem lines_at (s : ByteArray) (L : Int) (w : World) (hs : s.size ≤ 140737488355328) (hp : Hid (((Src.pl s.data.toList).1 : Int) = L)) :
    Calls Tryd.prog 9 #[.string s] w fun e w' => e = .returned (.int .i64 L) ∧ Below w.heap.size w w' := by
  have h := lines_any s w hs
  rw [Src.lns_len, hp.out] at h
  exact h

end Go.Proofs.YtgncoeihlfcaiaaDoor
