import Derived.Test.YtgncoeihlfcaiaaDoorAt
namespace Go.Proofs.YtgncoeihlfcaiaaDoor
open Go.RowKit Go.Shelf

theorem bcell {W w1 : World} (hb : Below W.heap.size W w1) : (∀ b o, b < W.heap.size → w1.cell? ⟨b, o, none⟩ = W.cell? ⟨b, o, none⟩) ∧ (∀ b o, b < W.heap.size → w1.frozen? ⟨b, o, none⟩ = W.frozen? ⟨b, o, none⟩) :=
  ⟨fun b o h => hb.cell (p := ⟨b, o, none⟩) h, fun b o h => hb.frozen (p := ⟨b, o, none⟩) h⟩

theorem where_int (s : ByteArray) (a : Int) (k : Nat) (L C : Int) (w : World) (hs : s.size ≤ 140737488355328) (hk : k ≤ s.size) (ha : Hid (a = (k : Int))) (hp : Hid (((Src.pl (s.data.toList.take k)).1 : Int) = L ∧ ((Src.pl (s.data.toList.take k)).2 : Int) = C)) :
    Calls Tryd.prog 8 #[.string s, .int .i64 a] w fun e w' => e = .returned (.tuple #[.agg #[.int .i64 L, .int .i64 C], .int .i64 0]) ∧ Below w.heap.size w w' := by
  rw [ha.out]
  exact where_at s k L C w hs hk hp

theorem take_snoc (l : List UInt8) (j : Nat) (h : j < l.length) : l.take (j + 1) = l.take j ++ [l[j]] := List.take_succ_eq_append_getElem h

theorem rises_ten {s : ByteArray} {j : Nat} {L : Int} (hj : j < s.size) (hc : s[j] = 10) (h1 : ((Src.pl (s.data.toList.take j)).1 : Int) = L) : ((Src.pl (s.data.toList.take (j + 1))).1 : Int) = L + 1 ∧ ((Src.pl (s.data.toList.take (j + 1))).2 : Int) = 1 := by
  rw [take_snoc _ _ (by simpa [← Lib.size_eq] using hj), Src.pl_snoc]
  have e : s.data.toList[j]'(by simpa [← Lib.size_eq] using hj) = 10 := hc
  rw [e]
  simp [Src.stp, ← h1]
theorem rises_col {s : ByteArray} {j : Nat} {L C : Int} (hj : j < s.size) (hc : s[j] ≠ 10) (h1 : ((Src.pl (s.data.toList.take j)).1 : Int) = L) (h2 : ((Src.pl (s.data.toList.take j)).2 : Int) = C) : ((Src.pl (s.data.toList.take (j + 1))).1 : Int) = L ∧ ((Src.pl (s.data.toList.take (j + 1))).2 : Int) = C + 1 := by
  rw [take_snoc _ _ (by simpa [← Lib.size_eq] using hj), Src.pl_snoc]
  have e : s.data.toList[j]'(by simpa [← Lib.size_eq] using hj) ≠ 10 := hc
  rw [show Src.stp (Src.pl (s.data.toList.take j)) (s.data.toList[j]'(by simpa [← Lib.size_eq] using hj)) = _ from if_neg e]
  simp [← h1, ← h2]

theorem pl_bd (s : ByteArray) (j : Nat) (hs : s.size ≤ 140737488355328) : ((Src.pl (s.data.toList.take j)).1 : Int) ≤ 140737488355329 ∧ ((Src.pl (s.data.toList.take j)).2 : Int) ≤ 140737488355329 := by
  have h := Src.pl_le (s.data.toList.take j)
  have hl : (s.data.toList.take j).length ≤ s.data.toList.length := List.length_take_le' _ _
  rw [← Lib.size_eq] at hl
  omega

end Go.Proofs.YtgncoeihlfcaiaaDoor
