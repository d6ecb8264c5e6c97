import Derived.Test.YtgncoeihlfcaiaaDoorStep
namespace Go.Proofs.YtgncoeihlfcaiaaDoor
open Go.RowKit

/-- Where an excerpt ends. -/
def lastN (s : ByteArray) (k ar : Nat) : Nat := min ((Src.pl (s.data.toList.take k)).1 + ar) (Src.lns s.data.toList).length
/-- The rows of an excerpt. -/
def exR (s : ByteArray) (k ar : Nat) : List ByteArray :=
  accN (Src.pl (s.data.toList.take k)).1 (Src.pl (s.data.toList.take k)).2 ar (itB (lastN s k ar)).size (Src.lns s.data.toList) (lastN s k ar)
/-- What Excerpt answers. -/
def exS (s : ByteArray) (at_ ar : Int) : List ByteArray × Int :=
  if at_ < 0 ∨ (s.size : Int) < at_ then ([], 10) else if ar < 0 ∨ 20 < ar then ([], 1) else (exR s at_.toNat ar.toNat, 0)

theorem own_drew {w : World} {base : Nat} {e : TypeId} {v : Value} {n : Nat} {xs : List Value} (h : w.ownsRow base e 1 v n xs) : w.drew.ownsRow base e 1 v n xs := own_stays h ((Below.refl _ w).drew)

theorem lineL_nth : ∀ (ls : List (List UInt8)) (k j : Nat) (h : j < ls.length), lineL ((k + j : Nat) : Int) (Src.rows k ls) = (⟨(ls[j]).toArray⟩, 0)
  | l :: r, k, 0, _ => by
    show (if ((k : Nat) : Int) = ((k + 0 : Nat) : Int) then _ else _) = _
    rw [if_pos (by omega)]
    rfl
  | l :: r, k, j + 1, h => by
    have ih := lineL_nth r (k + 1) j (by simpa using h)
    show (if ((k : Nat) : Int) = ((k + (j + 1) : Nat) : Int) then _ else _) = _
    rw [if_neg (by omega), show k + (j + 1) = k + 1 + j by omega, ih]
    rfl
  | [], _, _, h => by simp at h

theorem lns_short : ∀ (l : List UInt8), ∀ x ∈ Src.lns l, x.length ≤ l.length
  | [], x, h => by simp [Src.lns] at h; subst h; simp
  | c :: t, x, h => by
    have ih := lns_short t
    unfold Src.lns at h
    split at h
    · rcases List.mem_cons.1 h with rfl | h
      · simp
      · have := ih x h; simp; omega
    · cases hl : Src.lns t with
      | nil => rw [hl] at h; simp at h; subst h; simp
      | cons a r =>
        rw [hl] at h
        rcases List.mem_cons.1 h with rfl | h
        · have := ih a (by rw [hl]; exact List.mem_cons_self ..); simp; omega
        · have := ih x (by rw [hl]; exact List.mem_cons_of_mem _ h); simp; omega

theorem accN_few (L C ar width : Nat) (ls : List (List UInt8)) : ∀ m, (accN L C ar width ls m).length ≤ 2 * (m - (L - ar - 1))
  | 0 => by simp [accN]
  | m + 1 => by
    have ih := accN_few L C ar width ls m
    by_cases h : m < ls.length
    · rw [accN_succ L C ar width ls m h, List.length_append]
      by_cases hk : 1 + m + ar < L
      · have : blk L C ar width (1 + m, ⟨(ls[m]).toArray⟩) = [] := if_pos hk
        rw [this, List.length_nil]
        omega
      · have := blk_len L C ar width (1 + m, ⟨(ls[m]).toArray⟩)
        omega
    · have e : accN L C ar width ls (m + 1) = accN L C ar width ls m := by
        unfold accN
        rw [List.take_of_length_le (by rw [rows_length]; omega), List.take_of_length_le (by rw [rows_length]; omega)]
      rw [e]
      omega

theorem pl_mono (l : List UInt8) (k : Nat) (hk : k ≤ l.length) : (Src.pl (l.take k)).1 ≤ (Src.pl l).1 := by
  by_cases h : k = l.length
  · rw [h, List.take_length]; exact Nat.le_refl _
  · have := pl_rises l k l.length (by omega) (Nat.le_refl _)
    rw [List.take_length] at this
    omega

theorem accN_pos (L C a width : Nat) (ls : List (List UInt8)) : ∀ m, L ≤ m → 1 ≤ L → m ≤ ls.length → 0 < (accN L C a width ls m).length
  | 0, h, h1, _ => by omega
  | m + 1, h, h1, h2 => by
    rw [accN_succ L C a width ls m (by omega), List.length_append]
    by_cases hm : L ≤ m
    · have := accN_pos L C a width ls m hm h1 (by omega)
      omega
    · have : blk L C a width (1 + m, ⟨(ls[m]).toArray⟩) = rowB ((1 + m : Nat) : Int) width ⟨(ls[m]).toArray⟩ :: (if 1 + m = L then [markB width C] else []) := if_neg (by show ¬ 1 + m + a < L; omega)
      rw [this]
      simp
      omega

theorem exR_pos (s : ByteArray) (k a : Nat) (hk : k ≤ s.size) : 0 < (exR s k a).length := by
  unfold exR
  have h1 := pl_mono s.data.toList k (by rw [← Lib.size_eq]; exact hk)
  have h2 := Src.lns_len s.data.toList
  have h3 := Src.pl_le (s.data.toList.take k)
  have h4 := Src.pl_le s.data.toList
  refine accN_pos _ _ _ _ _ _ ?_ h3.1.1 (Nat.min_le_right _ _)
  unfold lastN
  omega

set_option maxRecDepth 100000 in
set_option maxHeartbeats 2000000 in
theorem rex_any (s : ByteArray) (at_ ar : Int) (w : World) (hs : s.size ≤ 140737488355328) (ht : Tab w) :
    Calls Tryd.prog 5 #[.string s, .int .i64 at_, .int .i64 ar] w fun e w' => (∃ v, e = .returned (.tuple #[v, .int .i64 (exS s at_ ar).2]) ∧ Hid (w'.ownsRow w.heap.size 9 1 v (exS s at_ ar).1.length (tc (exS s at_ ar).1)) ∧ Hid ((exS s at_ ar).1.length = 0 → v = .slice none 0 0)) ∧ Below w.heap.size w w' := by
  by_cases h1 : at_ < 0 ∨ (s.size : Int) < at_
  · have e1 : exS s at_ ar = ([], 10) := by unfold exS; rw [if_pos h1]
    rw [e1]
    have H14 : Hid (Calls Tryd.prog 14 #[.string s, .int .i64 at_] w fun e w' => e = .returned (.tuple #[.agg #[.int .i64 0, .int .i64 0], .int .i64 10]) ∧ Below w.heap.size w w') := rwhere_no s at_ w hs h1
    clear e1 h1 ht
    go_enter Tryd.func5, Tryd.ntmps5
    go_wp2_with (first
      | (go_at_call 14; refine H14.out.mono ?_; rintro e w1 ⟨rfl, hb1⟩)
      | go_in)
    exact bodyPost_ret (v := .tuple #[.slice none 0 0, .int .i64 10]) (by simp [results, Tryd.results5, go_sem]) rfl ⟨⟨_, rfl, ⟨rfl, .inl ⟨rfl, rfl⟩⟩, fun _ => rfl⟩, hb1.alloc hb1.size _⟩
  · have hk : ∃ k : Nat, at_ = (k : Int) ∧ k ≤ s.size := ⟨at_.toNat, by omega, by omega⟩
    obtain ⟨k, rfl, hk⟩ := hk
    obtain ⟨L, C, hp⟩ : ∃ L C : Nat, Src.pl (s.data.toList.take k) = (L, C) := ⟨_, _, rfl⟩
    have H14 : Hid (Calls Tryd.prog 14 #[.string s, .int .i64 (k : Int)] w fun e w' => e = .returned (.tuple #[.agg #[.int .i64 (L : Int), .int .i64 (C : Int)], .int .i64 0]) ∧ Below w.heap.size w w') :=
      rwhere_at s k L C w hs hk (by rw [hp]; exact ⟨rfl, rfl⟩)
    by_cases h2 : ar < 0 ∨ 20 < ar
    · have e1 : exS s k ar = ([], 1) := by unfold exS; rw [if_neg h1, if_pos h2]
      rw [e1]
      have h2' : ar < 0 ∨ (¬ ar < 0 ∧ 20 < ar) := by omega
      clear e1 h1 ht h2
      go_enter Tryd.func5, Tryd.ntmps5
      go_upto_region 4 with (first
        | (go_at_call 14; refine H14.out.mono ?_; rintro e w1 ⟨rfl, hb1⟩)
        | go_in)
      rcases h2' with h2 | ⟨h2, h3⟩
      all_goals go_wp2
      all_goals exact bodyPost_ret (v := .tuple #[.slice none 0 0, .int .i64 1]) (by simp [results, Tryd.results5, go_sem]) rfl ⟨⟨_, rfl, ⟨rfl, .inl ⟨rfl, rfl⟩⟩, fun _ => rfl⟩, hb1.alloc hb1.size _⟩
    · obtain ⟨a, rfl, ha⟩ : ∃ a : Nat, ar = (a : Int) ∧ a ≤ 20 := ⟨ar.toNat, by omega, by omega⟩
      have hpl := Src.pl_le (s.data.toList.take k)
      have htl := List.length_take_le k s.data.toList
      rw [hp] at hpl
      simp only at hpl
      have hsl : s.data.toList.length = s.size := (Lib.size_eq s).symm
      obtain ⟨ls, hls⟩ : ∃ ls, Src.lns s.data.toList = ls := ⟨_, rfl⟩
      have hM := Src.lns_len s.data.toList
      have hMl := Src.pl_le s.data.toList
      obtain ⟨lst, hlst⟩ : ∃ lst, lastN s k a = lst := ⟨_, rfl⟩
      have e1 : exS s k a = (accN L C a (itB lst).size ls lst, 0) := by
        unfold exS exR
        rw [if_neg h1, if_neg h2, Int.toNat_natCast, Int.toNat_natCast, hlst, hp, hls]
      rw [e1]
      have hpos : 0 < (accN L C a (itB lst).size ls lst).length := by
        have := exR_pos s k a hk
        unfold exR at this
        rwa [hlst, hp, hls] at this
      have hlq : lst = min (L + a) ls.length := by rw [← hlst]; unfold lastN; rw [hp, hls]
      rw [hls] at hM
      obtain ⟨M, hMM⟩ : ∃ M, (Src.pl s.data.toList).1 = M := ⟨_, rfl⟩
      rw [hMM] at hM hMl
      have HLS : Hid (Src.lns s.data.toList = ls) := hls
      have HLQ : Hid (lst = min (L + a) M) := by show lst = _; rw [hlq, hM]
      have HLEN : Hid (ls.length = M) := hM
      obtain ⟨b, HBI⟩ := hid_pair (itB (lst : Int))
      have HBW : Hid ((itB (lst : Int)).size = b.size) := by show _ = _; rw [HBI.out]
      rw [HBW.out] at hpos ⊢
      have HPOS : Hid (0 < (accN L C a b.size ls lst).length) := hpos
      have hM1 : M ≤ 140737488355329 := by omega
      have hL1 : L ≤ 140737488355329 := by omega
      have hL0 : 1 ≤ L := by omega
      have hC1 : 1 ≤ C ∧ C ≤ 140737488355329 := by omega
      have hM0 : 1 ≤ M := by omega
      have hlst1 : lst ≤ M := by have := HLQ.out; omega
      have hlst0 : 1 ≤ lst := by have := HLQ.out; omega
      have hlstL : lst ≤ L + a := by have := HLQ.out; omega
      have HT : Hid (Tab w) := ht
      have H15 : Hid (∀ w' : World, Calls Tryd.prog 15 #[.string s] w' fun e w'' => e = .returned (.int .i64 (M : Int)) ∧ w' = w'') := fun w' => by
        have := rlines_any s w' hs
        rw [hMM] at this
        exact this.mono fun e w'' h => ⟨h.1, h.2.symm⟩
      have hb21 : b.size ≤ 21 := by rw [HBI.out]; exact itB_size lst (by omega) (by omega)
      have q1 : IntKind.i64.wrap ((L : Int) + (a : Int)) = (L : Int) + (a : Int) := by rw [IntKind.wrap_i64]; omega
      have q2 : IntKind.i64.wrap ((L : Int) - (a : Int)) = (L : Int) - (a : Int) := by rw [IntKind.wrap_i64]; omega
      clear e1 h1 ht h2 hpl htl hsl hls hM hMl hlst hlq hMM hp hpos
      go_enter Tryd.func5, Tryd.ntmps5
      go_upto_region 4 with (first
        | (go_at_call 14; refine H14.out.mono ?_; rintro e w1 ⟨rfl, hb1⟩)
        | go_in)
      obtain ⟨w2, hw2⟩ : ∃ w2, w1.alloc (.cells #[.int .i64 (L : Int), .int .i64 (C : Int)] 23) = w2 := ⟨_, rfl⟩
      have HB2 : Hid (Below w.heap.size w w2) := by show Below _ _ _; rw [← hw2]; exact hb1.alloc hb1.size _
      have z2 : w1.heap.size < w2.heap.size := by rw [← hw2]; simp
      have HP2 : Hid (∀ w' : World, Below w2.heap.size w2 w' → w'.cell? ⟨w1.heap.size, 0, none⟩ = some (.int .i64 (L : Int)) ∧ w'.cell? ⟨w1.heap.size, 1, none⟩ = some (.int .i64 (C : Int))) := fun w' hb => by
        have := new_pair w1 (.int .i64 (L : Int)) (.int .i64 (C : Int)) 23
        rw [hw2] at this
        exact ⟨(hb.cell (p := ⟨w1.heap.size, 0, none⟩) z2).trans this.1.1, (hb.cell (p := ⟨w1.heap.size, 1, none⟩) z2).trans this.2.1⟩
      rw [hw2]
      clear hw2 H14 hb1
      obtain ⟨p0, p1⟩ := HP2.out w2 (Below.refl _ _)
      have ha0 : ¬ (a : Int) < 0 := by omega
      have ha1 : ¬ (20 : Int) < (a : Int) := by omega
      go_wp2
      go_loopw [10] (fun x wr => ∃ n : Nat, lst ≤ n ∧ n ≤ L + a ∧ x = .int .i64 (n : Int) ∧ w2 = wr) (fun x _ => (intOf x).toNat)
      case atStart => exact ⟨L + a, hlstL, Nat.le_refl _, by go_num, rfl⟩
      case round =>
        obtain ⟨n, hn1, hn2, rfl, rfl⟩ := hrel
        by_cases hn : (M : Int) < (n : Int)
        · have j1 : IntKind.i64.wrap ((n : Int) - 1) = (n : Int) - 1 := by rw [IntKind.wrap_i64]; omega
          go_wp2_with (first
            | (go_at_call 15; refine (H15.out _).mono ?_; rintro e w3 ⟨rfl, rfl⟩)
            | go_in)
          exact ⟨⟨n - 1, by omega, by omega, by go_num, by first | rfl | trivial⟩, by simp [intOf]; omega⟩
        · obtain rfl : n = lst := by have := HLQ.out; omega
          have hlst2 : (n : Int) ≤ 140737488355350 := by omega
          have hlst3 : (0 : Int) ≤ (n : Int) := by omega
          have hbn : n ≤ M := hlst1
          go_upto_region 10 with (first
            | (go_at_call 15; refine (H15.out _).mono ?_; rintro e w3 ⟨rfl, rfl⟩)
            | (go_at_call 10; refine (itoa_any (n : Int) b _ hlst3 hlst2 HBI (HT.out.below HB2.out)).mono ?_; rintro e w3 ⟨rfl, hb3⟩)
            | go_in)
          have HB3 : Hid (Below w2.heap.size w2 w3) := hb3
          have HT3 : Hid (Tab w3) := (HT.out.below HB2.out).below hb3
          have z3 := hb3.size
          clear hb3 hlst3 hn hn1 hn2 hbn
          go_wp2
          go_loopw [12, 13] (fun x y wq => ∃ m : Nat, m ≤ n ∧ y = .int .i64 ((m : Int) + 1) ∧ Hid (wq.ownsRow w3.heap.size 9 1 x (accN L C a b.size ls m).length (tc (accN L C a b.size ls m))) ∧ Hid (Below w3.heap.size w3 wq)) (fun _ y _ => n + 1 - (intOf y).toNat)
          case atStart => exact ⟨0, Nat.zero_le _, by go_num, ⟨rfl, .inl ⟨rfl, rfl⟩⟩, Below.refl _ _⟩
          case round =>
            obtain ⟨m, hm, rfl, hO, hB⟩ := hrel
            have hb2q : Below w2.heap.size w2 wr := HB3.out.trans (hB.out.mono z3)
            obtain ⟨r0, r1⟩ := HP2.out _ hb2q
            have zq := hB.out.size
            clear p0 p1
            by_cases hlt : m < n
            · have hml : m < ls.length := by rw [HLEN.out]; omega
              have HST : Hid (accN L C a b.size ls (m + 1) = accN L C a b.size ls m ++ blk L C a b.size (1 + m, ⟨(ls[m]).toArray⟩)) := accN_succ L C a b.size ls m hml
              have j1 : IntKind.i64.wrap ((m : Int) + 1 + 1) = (m : Int) + 1 + 1 := by rw [IntKind.wrap_i64]; omega
              have j2 : (m : Int) + 1 ≤ (n : Int) := by omega
              by_cases hsk : (m : Int) + 1 < (L : Int) - (a : Int)
              · have HE : Hid (accN L C a b.size ls (m + 1) = accN L C a b.size ls m) := by
                  show _ = _
                  rw [HST.out]
                  unfold blk
                  rw [if_pos (by show 1 + m + a < L; omega)]
                  simp
                clear HST
                go_wp2
                exact ⟨⟨m + 1, by omega, by go_num, by rw [HE.out]; exact hO, hB⟩, by simp [intOf]; omega⟩
              · obtain ⟨line, HLN⟩ := hid_pair (⟨(ls[m]).toArray⟩ : ByteArray)
                have HLI : Hid (LineIs s.data.toList ((m : Int) + 1) line 0) := by
                  have := lineL_is s.data.toList ((1 + m : Nat) : Int)
                  rw [HLS.out, lineL_nth ls 1 m hml] at this
                  show LineIs _ _ _ _
                  rw [HLN.out, show (m : Int) + 1 = ((1 + m : Nat) : Int) by omega]
                  exact this
                have hll : line.size ≤ 140737488355328 := by
                  rw [HLN.out, Lib.size_eq]
                  have := lns_short s.data.toList (ls[m]) (by rw [HLS.out]; exact List.getElem_mem hml)
                  rw [← Lib.size_eq] at this
                  simp only
                  omega
                obtain ⟨d, HD⟩ := hid_pair (itB ((m : Int) + 1))
                have hd : d.size ≤ b.size := by rw [HD.out, HBI.out, show (m : Int) + 1 = ((m + 1 : Nat) : Int) by omega]; exact itB_mono (m + 1) n hlt
                obtain ⟨q, HQ⟩ := hid_pair (bl (b.size - d.size))
                obtain ⟨z, HZ⟩ := hid_pair (shB line)
                have hd1 : (d.size : Int) ≤ (b.size : Int) := by omega
                have hq : q.size ≤ 21 := by rw [HQ.out, bl_size]; omega
                have hz : z.size ≤ 140737488355328 := by rw [HZ.out, shB_size]; exact hll
                have H16 : Hid (Calls Tryd.prog 16 #[.string s, .int .i64 ((m : Int) + 1)] wr fun e w' => e = .returned (.tuple #[.string line, .int .i64 0]) ∧ Below wr.heap.size wr w') := rline_is s _ line 0 wr hs HLI
                have R17 : Hid (∀ w' : World, Calls Tryd.prog 17 #[.int .i64 ((b.size : Int) - (d.size : Int))] w' fun e w'' => e = .returned (.string q) ∧ w' = w'') := fun w' =>
                  (rblanks_any (b.size - d.size) _ q w' (by omega) (show (b.size : Int) - (d.size : Int) = ((b.size - d.size : Nat) : Int) by omega) HQ).mono fun e w'' h => ⟨h.1, h.2.symm⟩
                have R18 : Hid (∀ w' : World, Calls Tryd.prog 18 #[.string line] w' fun e w'' => e = .returned (.string z) ∧ w' = w'') := fun w' =>
                  (rshown_any line z w' hll HZ).mono fun e w'' h => ⟨h.1, h.2.symm⟩
                have HTW : Hid (Tab wr) := HT3.out.below hB.out
                have j3 : IntKind.i64.wrap ((b.size : Int) - (d.size : Int)) = (b.size : Int) - (d.size : Int) := by rw [IntKind.wrap_i64]; omega
                have j4 : (0 : Int) ≤ (m : Int) + 1 := by omega
                have j5 : (m : Int) + 1 ≤ 140737488355350 := by omega
                have j6 : IntKind.i64.wrap ((C : Int) - 1) = (C : Int) - 1 := by rw [IntKind.wrap_i64]; omega
                have hfew : (accN L C a b.size ls m).length ≤ 90 := by have := accN_few L C a b.size ls m; omega
                obtain ⟨acc, hacc⟩ : ∃ acc, accN L C a b.size ls m = acc := ⟨_, rfl⟩
                rw [hacc] at hfew hO HST
                obtain ⟨P1, HP1⟩ := hid_pair (bl b.size)
                obtain ⟨P2, HPP⟩ := hid_pair (bl (C - 1))
                have hP1 : P1.size ≤ 21 := by rw [HP1.out, bl_size]; exact hb21
                have hP2 : P2.size ≤ 140737488355328 := by rw [HPP.out, bl_size]; omega
                have R17a : Hid (∀ w' : World, Calls Tryd.prog 17 #[.int .i64 (b.size : Int)] w' fun e w'' => e = .returned (.string P1) ∧ w'' = w') := fun w' => rblanks_any b.size _ P1 w' (by omega) (show (b.size : Int) = (b.size : Int) from rfl) HP1
                have R17b : Hid (∀ w' : World, Calls Tryd.prog 17 #[.int .i64 ((C : Int) - 1)] w' fun e w'' => e = .returned (.string P2) ∧ w'' = w') := fun w' => rblanks_any (C - 1) _ P2 w' (by omega) (show (C : Int) - 1 = ((C - 1 : Nat) : Int) by omega) HPP
                have t1 : ¬ 9223372036854775807 < P1.size + 3 := by omega
                have t2 : ¬ 9223372036854775807 < P1.size + 3 + P2.size := by omega
                have t3 : ¬ 9223372036854775807 < P1.size + 3 + P2.size + 1 := by omega
                clear hacc
                by_cases he : line.size = 0
                · have HROW : Hid (rowB ((1 + m : Nat) : Int) b.size ⟨(ls[m]).toArray⟩ = (q ++ d) ++ ⟨#[32, 124]⟩) := by
                    show _ = _
                    unfold rowB
                    rw [← HLN.out, if_pos he, HQ.out, HD.out, show ((1 + m : Nat) : Int) = (m : Int) + 1 by omega]
                  have e : line = ⟨#[]⟩ := empty_of_size he
                  clear he hll HLI HZ
                  subst e
                  go_upto_region 20 with (first
                    | (go_at_call 16; refine H16.out.mono ?_; rintro e w4 ⟨rfl, hb4⟩)
                    | (go_at_call 10; refine (itoa_any ((m : Int) + 1) d _ j4 j5 HD (HTW.out.below hb4)).mono ?_; rintro e w5 ⟨rfl, hb5⟩)
                    | (go_at_call 17; refine (R17.out _).mono ?_; rintro e w6 ⟨rfl, rfl⟩)
                    | (go_at_call 18; refine (R18.out _).mono ?_; rintro e w6 ⟨rfl, rfl⟩)
                    | go_in)
                  have hbw : Below wr.heap.size wr w5 := hb4.trans (hb5.mono hb4.size)
                  have HO5 : Hid (w5.ownsRow w3.heap.size 9 1 u12 acc.length (tc acc)) := own_stays hO.out hbw
                  have HB5 : Hid (Below w3.heap.size w3 w5) := hB.out.trans (hbw.mono zq)
                  have z5 : w3.heap.size ≤ w5.heap.size := HB5.out.size
                  have Z5 : Hid (w3.heap.size ≤ w5.heap.size) := z5
                  clear hb4 hb5 hbw hO H16 R17 R18
                  go_upto_region 21 with (first
                    | (at_builtin; refine wpList_appS (by rfl) _ _ (by rfl) w3.heap.size u12 acc (by rfl) (HO5.out.alloc _) ⟨w5.heap.size, 0, none⟩ 1 _ (by rfl) (new_cell _ _ _).1 (by omega) (by simp; omega) ?_; intro v6 w6 ho6 hb6)
                    | go_in)
                  have HO6 : Hid (w6.ownsRow w3.heap.size 9 1 v6 (acc ++ [(q ++ d) ++ ⟨#[32, 124]⟩]).length (tc (acc ++ [(q ++ d) ++ ⟨#[32, 124]⟩]))) := ho6
                  have HB6 : Hid (Below w3.heap.size w3 w6) := (HB5.out.alloc Z5.out _).trans hb6
                  obtain ⟨s0, s1⟩ := HP2.out w6 (HB3.out.trans (HB6.out.mono z3))
                  have z6 := HB6.out.size
                  clear ho6 hb6 r0 r1
                  by_cases hmL : m + 1 = L
                  · have hmi : (m : Int) + 1 = (L : Int) := by omega
                    have HE : Hid (accN L C a b.size ls (m + 1) = (acc ++ [(q ++ d) ++ ⟨#[32, 124]⟩]) ++ [((P1 ++ ⟨#[32, 124, 32]⟩) ++ P2) ++ ⟨#[94]⟩]) := by
                      show _ = _
                      rw [HST.out]
                      unfold blk
                      rw [if_neg (by show ¬ 1 + m + a < L; omega)]
                      show acc ++ (rowB ((1 + m : Nat) : Int) b.size ⟨(ls[m]).toArray⟩ :: (if 1 + m = L then [markB b.size C] else [])) = _
                      rw [if_pos (by omega), HROW.out]
                      unfold markB
                      rw [← HP1.out, ← HPP.out]
                      simp
                    clear HST HROW
                    go_upto_region 22 with fail
                    go_region_law (first
                      | (refine step_appS (by rfl) _ _ (by rfl) w3.heap.size v6 (acc ++ [(q ++ d) ++ ⟨#[32, 124]⟩]) (by rfl) ((own_drew HO6.out).alloc _) _ 1 _ (by rfl) (new_cell _ _ _).1 (by simp; omega) (by simp; omega) ?_; intro v7 w7 ho7 hb7)
                      | (refine step_call (by rfl) 17 _ 3 _ _ (by rfl) (by rfl) (call17 _ _) (R17a.out _) ?_)
                      | (refine step_call (by rfl) 17 _ 3 _ _ (by rfl) (by rfl) (call17 _ _) (R17b.out _) ?_))
                    all_goals go_wp2
                    all_goals exact ⟨⟨m + 1, by omega, by go_num, by rw [HE.out]; exact ho7, ((HB6.out.drew).alloc z6 _).trans hb7⟩, by simp [intOf]; omega⟩
                  · have hmi : ((m : Int) + 1 == (L : Int)) = false := by rw [beq_eq_false_iff_ne]; omega
                    have HE : Hid (accN L C a b.size ls (m + 1) = acc ++ [(q ++ d) ++ ⟨#[32, 124]⟩]) := by
                      show _ = _
                      rw [HST.out]
                      unfold blk
                      rw [if_neg (by show ¬ 1 + m + a < L; omega)]
                      show acc ++ (rowB ((1 + m : Nat) : Int) b.size ⟨(ls[m]).toArray⟩ :: (if 1 + m = L then [markB b.size C] else [])) = _
                      rw [if_neg (by omega), HROW.out]
                    clear HST HROW hmL
                    go_upto_region 13 with fail
                    go_wp2
                    exact ⟨⟨m + 1, by omega, by go_num, by rw [HE.out]; exact HO6.out, HB6⟩, by simp [intOf]; omega⟩
                · have HROW : Hid (rowB ((1 + m : Nat) : Int) b.size ⟨(ls[m]).toArray⟩ = (((q ++ d) ++ ⟨#[32, 124]⟩) ++ ⟨#[32]⟩) ++ z) := by
                    show _ = _
                    unfold rowB
                    rw [← HLN.out, if_neg he, HQ.out, HD.out, HZ.out, show ((1 + m : Nat) : Int) = (m : Int) + 1 by omega]
                  have be2 : (line.toList == []) = false := by
                    rw [beq_eq_false_iff_ne]
                    intro e
                    rw [Lib.toList_data] at e
                    exact he (by rw [Lib.size_eq, e]; rfl)
                  clear he HLI HZ
                  go_upto_region 20 with (first
                    | (go_at_call 16; refine H16.out.mono ?_; rintro e w4 ⟨rfl, hb4⟩)
                    | (go_at_call 10; refine (itoa_any ((m : Int) + 1) d _ j4 j5 HD (HTW.out.below hb4)).mono ?_; rintro e w5 ⟨rfl, hb5⟩)
                    | (go_at_call 17; refine (R17.out _).mono ?_; rintro e w6 ⟨rfl, rfl⟩)
                    | (go_at_call 18; refine (R18.out _).mono ?_; rintro e w6 ⟨rfl, rfl⟩)
                    | go_in)
                  have hbw : Below wr.heap.size wr w5 := hb4.trans (hb5.mono hb4.size)
                  have HO5 : Hid (w5.ownsRow w3.heap.size 9 1 u12 acc.length (tc acc)) := own_stays hO.out hbw
                  have HB5 : Hid (Below w3.heap.size w3 w5) := hB.out.trans (hbw.mono zq)
                  have z5 : w3.heap.size ≤ w5.heap.size := HB5.out.size
                  have Z5 : Hid (w3.heap.size ≤ w5.heap.size) := z5
                  clear hb4 hb5 hbw hO H16 R17 R18
                  go_upto_region 21 with (first
                    | (at_builtin; refine wpList_appS (by rfl) _ _ (by rfl) w3.heap.size u12 acc (by rfl) (HO5.out.alloc _) ⟨w5.heap.size, 0, none⟩ 1 _ (by rfl) (new_cell _ _ _).1 (by omega) (by simp; omega) ?_; intro v6 w6 ho6 hb6)
                    | go_in)
                  have HO6 : Hid (w6.ownsRow w3.heap.size 9 1 v6 (acc ++ [(((q ++ d) ++ ⟨#[32, 124]⟩) ++ ⟨#[32]⟩) ++ z]).length (tc (acc ++ [(((q ++ d) ++ ⟨#[32, 124]⟩) ++ ⟨#[32]⟩) ++ z]))) := ho6
                  have HB6 : Hid (Below w3.heap.size w3 w6) := (HB5.out.alloc Z5.out _).trans hb6
                  obtain ⟨s0, s1⟩ := HP2.out w6 (HB3.out.trans (HB6.out.mono z3))
                  have z6 := HB6.out.size
                  clear ho6 hb6 r0 r1
                  by_cases hmL : m + 1 = L
                  · have hmi : (m : Int) + 1 = (L : Int) := by omega
                    have HE : Hid (accN L C a b.size ls (m + 1) = (acc ++ [(((q ++ d) ++ ⟨#[32, 124]⟩) ++ ⟨#[32]⟩) ++ z]) ++ [((P1 ++ ⟨#[32, 124, 32]⟩) ++ P2) ++ ⟨#[94]⟩]) := by
                      show _ = _
                      rw [HST.out]
                      unfold blk
                      rw [if_neg (by show ¬ 1 + m + a < L; omega)]
                      show acc ++ (rowB ((1 + m : Nat) : Int) b.size ⟨(ls[m]).toArray⟩ :: (if 1 + m = L then [markB b.size C] else [])) = _
                      rw [if_pos (by omega), HROW.out]
                      unfold markB
                      rw [← HP1.out, ← HPP.out]
                      simp
                    clear HST HROW
                    go_upto_region 22 with fail
                    go_region_law (first
                      | (refine step_appS (by rfl) _ _ (by rfl) w3.heap.size v6 (acc ++ [(((q ++ d) ++ ⟨#[32, 124]⟩) ++ ⟨#[32]⟩) ++ z]) (by rfl) ((own_drew HO6.out).alloc _) _ 1 _ (by rfl) (new_cell _ _ _).1 (by simp; omega) (by simp; omega) ?_; intro v7 w7 ho7 hb7)
                      | (refine step_call (by rfl) 17 _ 3 _ _ (by rfl) (by rfl) (call17 _ _) (R17a.out _) ?_)
                      | (refine step_call (by rfl) 17 _ 3 _ _ (by rfl) (by rfl) (call17 _ _) (R17b.out _) ?_))
                    all_goals go_wp2
                    all_goals exact ⟨⟨m + 1, by omega, by go_num, by rw [HE.out]; exact ho7, ((HB6.out.drew).alloc z6 _).trans hb7⟩, by simp [intOf]; omega⟩
                  · have hmi : ((m : Int) + 1 == (L : Int)) = false := by rw [beq_eq_false_iff_ne]; omega
                    have HE : Hid (accN L C a b.size ls (m + 1) = acc ++ [(((q ++ d) ++ ⟨#[32, 124]⟩) ++ ⟨#[32]⟩) ++ z]) := by
                      show _ = _
                      rw [HST.out]
                      unfold blk
                      rw [if_neg (by show ¬ 1 + m + a < L; omega)]
                      show acc ++ (rowB ((1 + m : Nat) : Int) b.size ⟨(ls[m]).toArray⟩ :: (if 1 + m = L then [markB b.size C] else [])) = _
                      rw [if_neg (by omega), HROW.out]
                    clear HST HROW hmL
                    go_upto_region 13 with fail
                    go_wp2
                    exact ⟨⟨m + 1, by omega, by go_num, by rw [HE.out]; exact HO6.out, HB6⟩, by simp [intOf]; omega⟩
            · obtain rfl : m = n := by omega
              have j2 : ¬ (m : Int) + 1 ≤ (m : Int) := by omega
              go_wp2
              exact bodyPost_ret (v := .tuple #[u12, .int .i64 0]) (by simp [results, Tryd.results5, go_sem]) rfl ⟨⟨_, rfl, own_low hO.out (by have := HB2.out.size; omega), fun h0 => absurd (show (accN L C a b.size ls m).length = 0 by (first | exact h0 | (rw [h0]; rfl))) (Nat.ne_of_gt HPOS.out)⟩, HB2.out.trans (hb2q.mono HB2.out.size)⟩
end Go.Proofs.YtgncoeihlfcaiaaDoor
