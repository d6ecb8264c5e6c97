import Derived.Test.YtgncoeihlfcaiaaDoorRefShow
import Derived.Test.YtgncoeihlfcaiaaDoorSign
import Derived.Test.YtgncoeihlfcaiaaDoorOwn
namespace Go.Proofs.YtgncoeihlfcaiaaDoor
open Go.RowKit

/-- What an excerpt shows of one line. -/
def blk (L C ar width : Nat) (x : Nat × ByteArray) : List ByteArray := if x.1 + ar < L then [] else rowB (x.1 : Int) width x.2 :: (if x.1 = L then [markB width C] else [])
/-- What it shows of the first m lines. -/
def accN (L C ar width : Nat) (ls : List (List UInt8)) (m : Nat) : List ByteArray := ((Src.rows 1 ls).take m).flatMap (blk L C ar width)
/-- What Excerpt answers, off the rows that have yet to come. -/
def exL (L C ar width last : Nat) : List (Nat × ByteArray) → List ByteArray
  | [] => []
  | x :: r => if last < x.1 then [] else blk L C ar width x ++ exL L C ar width last r

theorem rows_at : ∀ (ls : List (List UInt8)) (k j : Nat) (h : j < ls.length), (Src.rows k ls)[j]? = some (k + j, ⟨(ls[j]).toArray⟩)
  | l :: r, k, 0, _ => rfl
  | l :: r, k, j + 1, h => by
    have ih := rows_at r (k + 1) j (by simpa using h)
    show (Src.rows (k + 1) r)[j]? = _
    rw [ih]
    simp
    omega
  | [], _, _, h => by simp at h

theorem accN_succ (L C ar width : Nat) (ls : List (List UInt8)) (m : Nat) (h : m < ls.length) : accN L C ar width ls (m + 1) = accN L C ar width ls m ++ blk L C ar width (1 + m, ⟨(ls[m]).toArray⟩) := by
  unfold accN
  rw [List.take_add_one, rows_at ls 1 m h]
  simp

theorem exL_take (L C ar width last : Nat) : ∀ (ls : List (List UInt8)) (k : Nat), exL L C ar width last (Src.rows k ls) = ((Src.rows k ls).take (last + 1 - k)).flatMap (blk L C ar width)
  | [], _ => by simp [Src.rows, exL]
  | l :: r, k => by
    show (if last < k then [] else blk L C ar width (k, ⟨l.toArray⟩) ++ exL L C ar width last (Src.rows (k + 1) r)) = _
    by_cases h : last < k
    · rw [if_pos h, show last + 1 - k = 0 from by omega]
      simp
    · rw [if_neg h, exL_take L C ar width last r (k + 1), show last + 1 - k = (last + 1 - (k + 1)) + 1 from by omega]
      simp [Src.rows]

theorem exL_acc (L C ar width last : Nat) (ls : List (List UInt8)) : exL L C ar width last (Src.rows 1 ls) = accN L C ar width ls last := by
  rw [exL_take]
  rfl

theorem blk_len (L C ar width : Nat) (x : Nat × ByteArray) : (blk L C ar width x).length ≤ 2 := by
  unfold blk
  split
  · simp
  · split <;> simp

theorem accN_len (L C ar width : Nat) (ls : List (List UInt8)) : ∀ m, (accN L C ar width ls m).length ≤ 2 * m
  | 0 => by simp [accN]
  | m + 1 => by
    have ih := accN_len L C ar width ls m
    by_cases h : m < ls.length
    · rw [accN_succ L C ar width ls m h, List.length_append]
      have := blk_len L C ar width (1 + m, ⟨(ls[m]).toArray⟩)
      omega
    · have e : accN L C ar width ls (m + 1) = accN L C ar width ls m := by
        unfold accN
        rw [List.take_of_length_le (by rw [rows_length]; omega), List.take_of_length_le (by rw [rows_length]; omega)]
      rw [e]
      omega

/-- More digits, greater number. -/
theorem nDigits_mono : ∀ (b a : Nat), a ≤ b → Lib.nDigits a ≤ Lib.nDigits b := by
  intro b
  induction b using Nat.strongRecOn with
  | ind b ih =>
    intro a hab
    by_cases hb : b < 10
    · have ha : a < 10 := by omega
      rw [Lib.nDigits.eq_1 a, dif_pos ha, Lib.nDigits.eq_1 b, dif_pos hb]
      exact Nat.le_refl _
    · rw [Lib.nDigits.eq_1 b, dif_neg hb]
      by_cases ha : a < 10
      · rw [Lib.nDigits.eq_1 a, dif_pos ha]
        omega
      · rw [Lib.nDigits.eq_1 a, dif_neg ha]
        have := ih (b / 10) (by omega) (a / 10) (by omega)
        omega

theorem itB_len (n : Nat) : (itB (n : Int)).size = Lib.nDigits n := by
  rw [Lib.size_eq]
  show (Lib.itoa (n : Int)).length = _
  unfold Lib.itoa
  rw [if_neg (by omega), Int.toNat_natCast, Lib.decDigits_length]
theorem itB_mono (a b : Nat) (h : a ≤ b) : (itB (a : Int)).size ≤ (itB (b : Int)).size := by
  rw [itB_len, itB_len]
  exact nDigits_mono b a h

theorem tc_append (a b : List ByteArray) : tc (a ++ b) = tc a ++ tc b := by simp [tc]
theorem tc_len (a : List ByteArray) : (tc a).length = a.length := by simp [tc]

end Go.Proofs.YtgncoeihlfcaiaaDoor
