import Derived.Lib.SlBytesConst
import Derived.Lib.ConvBytes
import Derived.Deep.LoopGhost
import Derived.Test.YtichbejmelkjeaaGreatDoorU12
import Derived.Test.YtichbejmelkjeaaGreatDoorU26
import Derived.Test.YtichbejmelkjeaaGreatDoorU14
namespace Go.Proofs.YtichbejmelkjeaaGreatDoor
open Go.RowKit

theorem cat_exR (a b : ByteArray) (h : a.size + b.size ≤ 9223372036854775807) : ∃ y : ByteArray, Op.stringOp .add a b = pure (.string y) ∧ y.data.toList = a.data.toList ++ b.data.toList ∧ y.size = a.size + b.size := by
  refine ⟨a ++ b, ?_, by rw [ByteArray.data_append]; simp, ByteArray.size_append⟩
  unfold Op.stringOp
  simp only
  have e : IntKind.i64.max = 9223372036854775807 := by decide
  rw [e, if_neg (by omega)]
/-- A text's bytes in a block of their own. -/
theorem tx_bytes (w : World) (s : ByteArray) (hn : s.size ≤ 1000000000) : TxB (Lib.bytesWorld w 5 s) w.heap.size (.slice (some ⟨w.heap.size, 0, none⟩) s.size (grownCap w s.size 0 5)) s.data.toList ∧ Below w.heap.size w (Lib.bytesWorld w 5 s) := by
  have hat := Lib.bytesWorld_at_new w 5 s
  have hge := grownCap_ge w s.size 0 5
  have hsl := Lib.size_eq s
  have hsz : (Lib.bytesCells w 5 s).size = grownCap w s.size 0 5 := by
    unfold Lib.bytesCells
    simp
    omega
  refine ⟨.inr ⟨w.heap.size, _, _, _, by rw [hsl], Nat.le_refl _, hat, Nat.le_refl _, by rw [← hsl]; exact hge, grownCap_le_maxLen w s.size 0 5 (by unfold maxLen; omega), hsz, ?_⟩, ?_⟩
  · apply List.ext_getElem?
    intro j
    rw [List.getElem?_take]
    by_cases hj : j < s.data.toList.length
    · rw [if_pos hj]
      have := Lib.bytesWorld_cell w 5 s j (by rw [hsl]; exact hj)
      simp only [World.cell?, hat] at this
      have this : (Lib.bytesCells w 5 s)[j]? = some (.int .u8 ((s.data.toList.getD j 0).toNat : Int)) := this
      have e : (Lib.bytesCells w 5 s).toList[j]? = (Lib.bytesCells w 5 s)[j]? := by simp
      rw [e, this]
      unfold Lx.bv
      rw [List.getElem?_map, List.getElem?_eq_getElem hj, List.getD_eq_getElem?_getD, List.getElem?_eq_getElem hj]
      rfl
    · rw [if_neg hj, List.getElem?_eq_none (by rw [Lx.bv_len]; omega)]
  · have hsz2 := Lib.bytesWorld_size w 5 s
    exact ⟨rfl, rfl, rfl, by omega, fun k hk => Lib.bytesWorld_at_old w 5 s k hk⟩
theorem tx_lit (W : World) : TxB (W.alloc (.cells #[.int .u8 111, .int .u8 107, .int .u8 10] 5 (3, 4))) W.heap.size (.slice (some ⟨W.heap.size, 0, none⟩) 3 3) [111, 107, 10] :=
  .inr ⟨W.heap.size, 3, #[.int .u8 111, .int .u8 107, .int .u8 10], (3, 4), rfl, Nat.le_refl _, heap_alloc_new W _, by decide, by decide, by unfold maxLen; decide, rfl, rfl⟩
theorem conv_tx {w : World} {B : Nat} {v : Value} {l : List UInt8} (h : TxB w B v l) : (convert 62 9 v).run Tryz.prog w = .ok (.string ⟨l.toArray⟩) w := by
  obtain ⟨q, cap, rfl, hc, hr⟩ := h.slice
  by_cases h0 : 0 < l.length
  · obtain ⟨g, rfl, hrg⟩ := hr h0
    refine run_convert_bytes_back (P := Tryz.prog) w 62 9 5 ⟨g, 0, none⟩ cap l Tryz.underlying62 Tryz.underlying5 Tryz.underlying9 (fun j hj => ?_)
    have := hrg j (.int .u8 (l[j].toNat : Int)) (by unfold Lx.bv; rw [List.getElem?_map, List.getElem?_eq_getElem hj]; rfl)
    rw [Addr.add_mid]
    exact this
  · have hl : l = [] := List.eq_nil_of_length_eq_zero (by omega)
    subst hl
    cases q with
    | none => exact run_convert_bytes_nil w 62 5 Tryz.underlying62 Tryz.underlying5 0 cap 9 Tryz.underlying9
    | some a => exact run_convert_bytes_back (P := Tryz.prog) w 62 9 5 a cap [] Tryz.underlying62 Tryz.underlying5 Tryz.underlying9 (fun j hj => by simp at hj)

/-- A line of a response. -/
def lnR (l : List UInt8) : List UInt8 := [32, 32] ++ l.flatMap sh ++ [10]
def hdR (st : Int) : List UInt8 := if st = 0 then [111, 107, 10] else [101, 114, 114, 111, 114, 32] ++ Lib.itoa st ++ [10]
def rsS (st : Int) (L : List (List UInt8)) : List UInt8 := hdR st ++ L.flatMap lnR
theorem take_flat {α β : Type} (f : α → List β) (l : List α) (k : Nat) (x : α) (h : l[k]? = some x) : (l.take (k + 1)).flatMap f = (l.take k).flatMap f ++ f x := by
  rw [List.take_add_one, h]; simp
theorem take_le {α β : Type} (f : α → List β) (l : List α) (k : Nat) : ((l.take k).flatMap f).length ≤ (l.flatMap f).length := by
  conv => rhs; rw [← List.take_append_drop k l]
  rw [List.flatMap_append, List.length_append]; omega
end Go.Proofs.YtichbejmelkjeaaGreatDoor

namespace Go.Proofs.YtichbejmelkjeaaGreatDoor
open Go.RowKit

set_option maxRecDepth 100000 in
set_option maxHeartbeats 4000000 in
theorem rshown_any (s : ByteArray) (w : World) (hs : s.size ≤ 100000000) : Calls Tryz.prog 23 #[.string s] w fun e w' => e = .returned (.string ⟨(s.data.toList.flatMap sh).toArray⟩) ∧ Below w.heap.size w w' := by
  have hsz := Lib.size_eq s
  go_enter Tryz.func23, Tryz.ntmps23
  go_wp2_with fail
  go_loopw [3, 4] (fun v ix wr => ∃ (i : Nat), ix = .int .i64 (i : Int) ∧ i ≤ s.size ∧ Hid (TxB wr w.heap.size v ((s.data.toList.take i).flatMap sh)) ∧ Hid (Below w.heap.size w wr)) (fun _ ix _ => s.size - (intOf ix).toNat)
  case atStart => exact ⟨0, rfl, by omega, .inl ⟨rfl, Or.inr ⟨w.heap.size, 0, #[], rfl, Nat.le_refl _, heap_alloc_new w _, Nat.le_refl _, by unfold maxLen; omega, rfl, rfl⟩⟩, (Below.refl _ w).alloc (Nat.le_refl _) _⟩
  case round =>
    obtain ⟨i, rfl, hi, HTx, HBx⟩ := hrel
    have hi0 : (0 : Int) ≤ (i : Int) := by omega
    by_cases hend : i = s.size
    · subst hend
      have hcv := conv_tx HTx.out
      rw [List.take_of_length_le (by omega)] at hcv
      clear HTx hsz
      go_wp2
      go_ret
      exact ⟨rfl, HBx.out⟩
    · have hlt : i < s.size := by omega
      have hil : (i : Int) < (s.size : Int) := by omega
      obtain ⟨c, hc⟩ : ∃ c, s[i]'hlt = c := ⟨_, rfl⟩
      have hcl : s.data.toList[i]? = some c := by rw [List.getElem?_eq_getElem (by omega), ← hc]; rfl
      have hct := UInt8.toNat_lt c
      obtain ⟨A, hA⟩ : ∃ A, (s.data.toList.take i).flatMap sh = A := ⟨_, rfl⟩
      have HN : Hid ((s.data.toList.take (i + 1)).flatMap sh = A ++ sh c) := by
        show _ = _
        rw [take_flat sh _ i c hcl, hA]
      have hal : A.length ≤ 4 * i := by
        rw [← hA]
        clear hA HN hcl hc hct HTx HBx hil hlt hend hi hi0
        have hg : ∀ L : List UInt8, (L.flatMap sh).length ≤ 4 * L.length := by
          intro L
          induction L with
          | nil => simp
          | cons a L ih => have := sh_len a; simp only [List.flatMap_cons, List.length_append, List.length_cons]; omega
        have := hg (s.data.toList.take i)
        have h2 := List.length_take_le i s.data.toList
        omega
      rw [hA] at HTx
      have HT0 := HTx
      have HU0 := HBx
      obtain ⟨u0, hu0⟩ : ∃ u0, u0 = wr := ⟨_, rfl⟩
      subst hu0
      have hwi : IntKind.i64.wrap ((i : Int) + 1) = (i : Int) + 1 := by rw [IntKind.wrap_i64]; omega
      clear hA hcl HTx HBx hsz hend
      by_cases h1 : c = 10
      · have q1 : (c.toNat : Int) = 10 := by rw [h1]; rfl
        have HE : Hid (sh c = [92, 110]) := by show sh c = _; rw [h1]; rfl
        clear h1
        go_wp2_with (first
          | (at_builtin; refine wpList_appT (by rfl) _ _ (by rfl) w.heap.size _ (A ++ [92]) (by rfl) (HT1.out.alloc _) u1.heap.size 1 1 [110] (by rfl) (by rfl) (World.news_of_block (heap_alloc_new u1 _)) (by first | omega | (simp only [List.length_append, List.length_cons, List.length_nil]; omega)) (by have := HU1.out.size; simp; omega) ?_; intro v2 u2 ho hb; have HT2 : Hid (TxB u2 w.heap.size v2 (A ++ [92] ++ [110])) := ho; have HU2 : Hid (Below w.heap.size w u2) := HU1.out.trans (Lx.Below.after_alloc hb HU1.out.size); clear ho hb)
          | (at_builtin; refine wpList_appT (by rfl) _ _ (by rfl) w.heap.size _ (A) (by rfl) (HT0.out.alloc _) u0.heap.size 1 1 [92] (by rfl) (by rfl) (World.news_of_block (heap_alloc_new u0 _)) (by first | omega | (simp only [List.length_append, List.length_cons, List.length_nil]; omega)) (by have := HU0.out.size; simp; omega) ?_; intro v1 u1 ho hb; have HT1 : Hid (TxB u1 w.heap.size v1 (A ++ [92])) := ho; have HU1 : Hid (Below w.heap.size w u1) := HU0.out.trans (Lx.Below.after_alloc hb HU0.out.size); clear ho hb)
          | go_in)
        refine ⟨⟨i + 1, by go_num, by omega, ?_, HU2⟩, by simp [intOf]; omega⟩
        rw [HN.out, HE.out]
        have h := HT2.out
        try simp only [List.append_assoc, List.cons_append, List.nil_append] at h
        exact h
      have q1 : ¬ (c.toNat : Int) = 10 := fun h => h1 (UInt8.toNat_inj.1 (by show c.toNat = 10; omega))
      by_cases h2 : c = 92
      · have q2 : (c.toNat : Int) = 92 := by rw [h2]; rfl
        have HE : Hid (sh c = [92, 92]) := by show sh c = _; rw [h2]; rfl
        clear h1 h2 q1
        go_wp2_with (first
          | (at_builtin; refine wpList_appT (by rfl) _ _ (by rfl) w.heap.size _ (A ++ [92]) (by rfl) (HT1.out.alloc _) u1.heap.size 1 1 [92] (by rfl) (by rfl) (World.news_of_block (heap_alloc_new u1 _)) (by first | omega | (simp only [List.length_append, List.length_cons, List.length_nil]; omega)) (by have := HU1.out.size; simp; omega) ?_; intro v2 u2 ho hb; have HT2 : Hid (TxB u2 w.heap.size v2 (A ++ [92] ++ [92])) := ho; have HU2 : Hid (Below w.heap.size w u2) := HU1.out.trans (Lx.Below.after_alloc hb HU1.out.size); clear ho hb)
          | (at_builtin; refine wpList_appT (by rfl) _ _ (by rfl) w.heap.size _ (A) (by rfl) (HT0.out.alloc _) u0.heap.size 1 1 [92] (by rfl) (by rfl) (World.news_of_block (heap_alloc_new u0 _)) (by first | omega | (simp only [List.length_append, List.length_cons, List.length_nil]; omega)) (by have := HU0.out.size; simp; omega) ?_; intro v1 u1 ho hb; have HT1 : Hid (TxB u1 w.heap.size v1 (A ++ [92])) := ho; have HU1 : Hid (Below w.heap.size w u1) := HU0.out.trans (Lx.Below.after_alloc hb HU0.out.size); clear ho hb)
          | go_in)
        refine ⟨⟨i + 1, by go_num, by omega, ?_, HU2⟩, by simp [intOf]; omega⟩
        rw [HN.out, HE.out]
        have h := HT2.out
        try simp only [List.append_assoc, List.cons_append, List.nil_append] at h
        exact h
      have q2 : ¬ (c.toNat : Int) = 92 := fun h => h2 (UInt8.toNat_inj.1 (by show c.toNat = 92; omega))
      by_cases h3 : 32 ≤ c.toNat ∧ c.toNat ≤ 126
      · have g1 : ¬ (c.toNat : Int) < 32 := by omega
        have g2 : ¬ (126 : Int) < (c.toNat : Int) := by omega
        have HE : Hid (sh c = [c]) := by show sh c = _; unfold sh; rw [if_neg h1, if_neg h2, if_pos h3]
        clear h1 h2 h3
        go_wp2_with (first
          | (at_builtin; refine wpList_appT (by rfl) _ _ (by rfl) w.heap.size _ (A) (by rfl) (HT0.out.alloc _) u0.heap.size 1 1 [c] (by rfl) (by rfl) (World.news_of_block (heap_alloc_new u0 _)) (by first | omega | (simp only [List.length_append, List.length_cons, List.length_nil]; omega)) (by have := HU0.out.size; simp; omega) ?_; intro v1 u1 ho hb; have HT1 : Hid (TxB u1 w.heap.size v1 (A ++ [c])) := ho; have HU1 : Hid (Below w.heap.size w u1) := HU0.out.trans (Lx.Below.after_alloc hb HU0.out.size); clear ho hb)
          | go_in)
        refine ⟨⟨i + 1, by go_num, by omega, ?_, HU1⟩, by simp [intOf]; omega⟩
        rw [HN.out, HE.out]
        have h := HT1.out
        try simp only [List.append_assoc, List.cons_append, List.nil_append] at h
        exact h
      · have ho2 : (c.toNat : Int) < 32 ∨ (¬ (c.toNat : Int) < 32 ∧ (126 : Int) < (c.toNat : Int)) := by omega
        have HE : Hid (sh c = [92, 120, Lx.hx (c.toNat / 16), Lx.hx (c.toNat % 16)]) := by show sh c = _; unfold sh; rw [if_neg h1, if_neg h2, if_neg h3]
        have hq0 : (0 : Int) ≤ (c.toNat : Int) / 16 := by omega
        have hq1 : (c.toNat : Int) / 16 < 16 := by omega
        have hm0 : (0 : Int) ≤ (c.toNat : Int) % 16 := by omega
        have hm1 : (c.toNat : Int) % 16 < 16 := by omega
        clear h1 h2 h3
        rcases ho2 with g1 | ⟨g1, g2⟩
        all_goals
          go_wp2_with (first
            | (at_builtin; refine wpList_appT (by rfl) _ _ (by rfl) w.heap.size _ (A ++ [92] ++ [120] ++ [_]) (by rfl) (HT3.out.alloc _) u3.heap.size 1 1 [_] (by rfl) (by rfl) (World.news_of_block (heap_alloc_new u3 _)) (by first | omega | (simp only [List.length_append, List.length_cons, List.length_nil]; omega)) (by have := HU3.out.size; simp; omega) ?_; intro v4 u4 ho hb; have HT4 : Hid (TxB u4 w.heap.size v4 (A ++ [92] ++ [120] ++ [_] ++ [_])) := ho; have HU4 : Hid (Below w.heap.size w u4) := HU3.out.trans (Lx.Below.after_alloc hb HU3.out.size); clear ho hb)
            | (at_builtin; refine wpList_appT (by rfl) _ _ (by rfl) w.heap.size _ (A ++ [92] ++ [120]) (by rfl) (HT2.out.alloc _) u2.heap.size 1 1 [_] (by rfl) (by rfl) (World.news_of_block (heap_alloc_new u2 _)) (by first | omega | (simp only [List.length_append, List.length_cons, List.length_nil]; omega)) (by have := HU2.out.size; simp; omega) ?_; intro v3 u3 ho hb; have HT3 : Hid (TxB u3 w.heap.size v3 (A ++ [92] ++ [120] ++ [_])) := ho; have HU3 : Hid (Below w.heap.size w u3) := HU2.out.trans (Lx.Below.after_alloc hb HU2.out.size); clear ho hb)
            | (at_builtin; refine wpList_appT (by rfl) _ _ (by rfl) w.heap.size _ (A ++ [92]) (by rfl) (HT1.out.alloc _) u1.heap.size 1 1 [120] (by rfl) (by rfl) (World.news_of_block (heap_alloc_new u1 _)) (by first | omega | (simp only [List.length_append, List.length_cons, List.length_nil]; omega)) (by have := HU1.out.size; simp; omega) ?_; intro v2 u2 ho hb; have HT2 : Hid (TxB u2 w.heap.size v2 (A ++ [92] ++ [120])) := ho; have HU2 : Hid (Below w.heap.size w u2) := HU1.out.trans (Lx.Below.after_alloc hb HU1.out.size); clear ho hb)
            | (at_builtin; refine wpList_appT (by rfl) _ _ (by rfl) w.heap.size _ (A) (by rfl) (HT0.out.alloc _) u0.heap.size 1 1 [92] (by rfl) (by rfl) (World.news_of_block (heap_alloc_new u0 _)) (by first | omega | (simp only [List.length_append, List.length_cons, List.length_nil]; omega)) (by have := HU0.out.size; simp; omega) ?_; intro v1 u1 ho hb; have HT1 : Hid (TxB u1 w.heap.size v1 (A ++ [92])) := ho; have HU1 : Hid (Below w.heap.size w u1) := HU0.out.trans (Lx.Below.after_alloc hb HU0.out.size); clear ho hb)
            | go_in)
          refine ⟨⟨i + 1, by go_num, by omega, ?_, HU4⟩, by simp [intOf]; omega⟩
          rw [HN.out, HE.out]
          have h := HT4.out
          rw [hx_get, hx_get] at h
          try simp only [List.append_assoc, List.cons_append, List.nil_append] at h
          exact h
end Go.Proofs.YtichbejmelkjeaaGreatDoor

namespace Go.Proofs.YtichbejmelkjeaaGreatDoor
open Go.RowKit

theorem TxB.down {w : World} {B C : Nat} {v : Value} {l : List UInt8} (h : TxB w B v l) (hc : C ≤ B) : TxB w C v l := by
  rcases h with h | ⟨g, c1, c2, c3, h1, h2, h3⟩
  · exact .inl (own_down h hc)
  · exact .inr ⟨g, c1, c2, c3, h1, Nat.le_trans hc h2, h3⟩
theorem len_flat : ∀ L : List (List UInt8), L.length ≤ (L.flatMap lnR).length := by
  intro L
  induction L with
  | nil => simp
  | cons a L ih =>
    rw [List.flatMap_cons, List.length_append, List.length_cons]
    have : 1 ≤ (lnR a).length := by unfold lnR; simp
    omega
/-- What Response answers. -/
def RsP (w : World) (st : Int) (L : List (List UInt8)) (e : Ending) (w' : World) : Prop := ∃ y : ByteArray, e = .returned (.string y) ∧ Hid (y.data.toList = rsS st L ∧ Below w.heap.size w w')
set_option maxRecDepth 100000 in
set_option maxHeartbeats 8000000 in
theorem response_any (st s1 s2 s3 : Int) (q : Option Addr) (cap : Nat) (L : List (List UInt8)) (w : World) (hst : -9223372036854775808 ≤ st ∧ st ≤ 9223372036854775807) (hR : Row w w.heap.size q L.length (L.map sV)) (hT : Tab10 w) (hle : L.length ≤ cap) (hM : (rsS st L).length ≤ 999999000) (hml : ∀ x ∈ L, x.length ≤ 1000000000) :
    Calls Tryz.prog 10 #[.agg #[.int .i64 st, .int .i64 s1, .int .i64 s2, .int .i64 s3, .slice q L.length cap]] w (RsP w st L) := by
  obtain ⟨n, hn⟩ : ∃ n, L.length = n := ⟨_, rfl⟩
  rw [hn] at hR hle ⊢
  obtain ⟨X1, hX1⟩ : ∃ X1, w.alloc (.cells #[.int .i64 st, .int .i64 s1, .int .i64 s2, .int .i64 s3, .slice q n cap] 38) = X1 := ⟨_, rfl⟩
  have b1 : Below w.heap.size w X1 := by rw [← hX1]; exact (Below.refl _ w).alloc (Nat.le_refl _) _
  have f1 : Full X1 w.heap.size 38 [.int .i64 st, .int .i64 s1, .int .i64 s2, .int .i64 s3, .slice q n cap] := by rw [← hX1]; exact Full.new w _ _
  have hcc := Lib.run_convert_bytes_const (P := Tryz.prog) X1 62 5 #[.int .u8 111, .int .u8 107, .int .u8 10] 3 3 Tryz.underlying62 Tryz.underlying5
  obtain ⟨X2, hX2⟩ : ∃ X2, X1.alloc (.cells #[.int .u8 111, .int .u8 107, .int .u8 10] 5) = X2 := ⟨_, rfl⟩
  obtain ⟨X3, hX3⟩ : ∃ X3, X1.alloc (.cells #[.int .u8 111, .int .u8 107, .int .u8 10] 5 ((#[.int .u8 111, .int .u8 107, .int .u8 10] : Array Value).size, (#[.int .u8 111, .int .u8 107, .int .u8 10] : Array Value).size + 1)) = X3 := ⟨_, rfl⟩
  rw [hX2, hX3] at hcc
  have n3 : Below X1.heap.size X1 X3 := by rw [← hX3]; exact (Below.refl _ X1).alloc (Nat.le_refl _) _
  have b3 : Below w.heap.size w X3 := b1.trans (n3.mono b1.size)
  have t3 : TxB X3 X1.heap.size (.slice (some ⟨X1.heap.size, 0, none⟩) 3 3) [111, 107, 10] := by rw [← hX3]; exact tx_lit X1
  have HF : Hid (∀ W, Below X1.heap.size X1 W → Full W w.heap.size 38 [.int .i64 st, .int .i64 s1, .int .i64 s2, .int .i64 s3, .slice q n cap] ∧ Below w.heap.size w W ∧ Row W w.heap.size q n (L.map sV)) := fun W h => ⟨f1.next h, b1.trans (h.mono b1.size), hR.below (b1.trans (h.mono b1.size)) (Nat.le_refl _)⟩
  obtain ⟨⟨c0, -⟩, ⟨c1, -⟩, ⟨c2, -⟩, ⟨c3, -⟩, ⟨c4, -⟩⟩ := (f1.next n3).cell5
  have HT3 : Hid (TxB X3 X1.heap.size (.slice (some ⟨X1.heap.size, 0, none⟩) 3 3) [111, 107, 10]) := t3
  have HN3 : Hid (Below X1.heap.size X1 X3) := n3
  have HI : Hid (Calls Tryz.prog 17 #[.int .i64 st] X3 fun e w' => ∃ s : ByteArray, e = .returned (.string s) ∧ s.data.toList = Lib.itoa st ∧ Below X3.heap.size X3 w') := itoa_any st X3 hst (hT.next b3)
  have hil := Lib.itoa_length_le st hst.1 hst.2
  have hnb : n ≤ 1000000000 := by
    have h1 := len_flat L
    unfold rsS at hM
    rw [List.length_append] at hM
    omega
  have HLn : Hid (L.length = n) := hn
  have HMl : Hid (∀ x ∈ L, x.length ≤ 1000000000) := hml
  have HM : Hid ((rsS st L).length ≤ 999999000) := hM
  clear hR hT b1 f1 n3 b3 t3 hM hX3 hst hn hml
  have hor : (st = 0 ∧ (st != 0) = false) ∨ (¬ st = 0 ∧ (st != 0) = true) := by
    by_cases h : st = 0
    · exact .inl ⟨h, by rw [h]; rfl⟩
    · exact .inr ⟨h, by simpa using h⟩
  go_enter Tryz.func10, Tryz.ntmps10
  rcases hor with ⟨hs0, hne⟩ | ⟨hs0, hne⟩
  · have HHd : Hid (hdR st = [111, 107, 10]) := by show hdR st = _; unfold hdR; rw [if_pos hs0]
    clear hs0 HI
    go_upto_region 4 with fail
    obtain ⟨v, hd, W, hv, hW, HTx, HBx, HH⟩ : ∃ (v : Value) (hd : List UInt8) (W : World), (Value.slice (some ⟨X1.heap.size, 0, none⟩) 3 3) = v ∧ X3 = W ∧ Hid (TxB W X1.heap.size v hd) ∧ Hid (Below X1.heap.size X1 W) ∧ Hid (hdR st = hd) := ⟨_, _, _, rfl, rfl, HT3.out, HN3.out, HHd.out⟩
    rw [hv, hW]
    clear hv hW HHd
    clear hcc hX1 hX2 c0 c1 c2 c3 c4 HT3 HN3
    obtain ⟨⟨c0, -⟩, ⟨c1, -⟩, ⟨c2, -⟩, ⟨c3, -⟩, ⟨c4, -⟩⟩ := (HF.out W HBx.out).1.cell5
    go_wp2
    go_loopw [3, 21] (fun v i wr => ∃ (j : Nat), j ≤ n ∧ i = .int .i64 (j : Int) ∧ Hid (TxB wr X1.heap.size v (hd ++ (L.take j).flatMap lnR)) ∧ Hid (Below X1.heap.size X1 wr)) (fun _ i _ => n - (intOf i).toNat)
    case atStart => exact ⟨0, by omega, rfl, by simp only [List.take_zero, List.flatMap_nil, List.append_nil]; exact HTx.out, HBx.out⟩
    case round =>
      clear HTx HBx c0 c1 c2 c3 c4
      obtain ⟨j, hj, rfl, HTx, HBx⟩ := hrel
      obtain ⟨⟨c0, -⟩, ⟨c1, -⟩, ⟨c2, -⟩, ⟨c3, -⟩, ⟨c4, -⟩⟩ := (HF.out wr HBx.out).1.cell5
      have hj0 : (0 : Int) ≤ (j : Int) := by omega
      by_cases hje : j = n
      · subst hje
        have HY : Hid (hd ++ (L.take j).flatMap lnR = rsS st L) := by
          show _ = rsS st L
          unfold rsS
          rw [HH.out, List.take_of_length_le (by rw [HLn.out]; exact Nat.le_refl _)]
        have hcv := conv_tx HTx.out
        rw [HY.out] at hcv
        have HB9 : Hid (Below w.heap.size w wr) := (HF.out wr HBx.out).2.1
        clear HTx HBx
        go_wp2
        go_ret
        unfold RsP
        exact ⟨_, rfl, rfl, HB9.out⟩
      · have hlt : j < n := by omega
        have hjt : (j : Int) < (n : Int) := by omega
        obtain ⟨x, hx⟩ : ∃ x, L[j]? = some x := ⟨L[j]'(by rw [HLn.out]; exact hlt), List.getElem?_eq_getElem _⟩
        obtain ⟨y, hy⟩ : ∃ y : ByteArray, y.data.toList = x := ⟨⟨x.toArray⟩, rfl⟩
        obtain ⟨g, o, rfl, -, hrg⟩ := (HF.out wr HBx.out).2.2 (by omega)
        have cy : wr.cell? ⟨g, o + j, none⟩ = some (.string y) := hrg j (.string y) (by rw [List.getElem?_map, hx, ← hy]; rfl)
        have hsp := take_flat lnR L j x hx
        have htl : (hd ++ (L.take (j + 1)).flatMap lnR).length ≤ 999999000 := by
          have h1 := HM.out
          have h2 := take_le lnR L (j + 1)
          unfold rsS at h1
          rw [HH.out, List.length_append] at h1
          rw [List.length_append]; omega
        obtain ⟨A, hA⟩ : ∃ A, hd ++ (L.take j).flatMap lnR = A := ⟨_, rfl⟩
        rw [hA] at HTx
        have HSp : Hid (hd ++ (L.take (j + 1)).flatMap lnR = A ++ [32, 32] ++ y.data.toList.flatMap sh ++ [10]) := by
          show hd ++ (L.take (j + 1)).flatMap lnR = _
          rw [hsp, ← List.append_assoc, hA, hy]
          unfold lnR
          simp only [List.append_assoc]
        have HTl : Hid ((A ++ [32, 32] ++ y.data.toList.flatMap sh ++ [10]).length ≤ 999999000) := by
          show (A ++ [32, 32] ++ y.data.toList.flatMap sh ++ [10]).length ≤ 999999000
          rw [← HSp.out]; exact htl
        have hyn : y.size ≤ 1000000000 := by
          rw [Lib.size_eq, hy]; exact HMl.out x (List.mem_of_getElem? hx)
        have hal : A.length + 2 ≤ 999999000 := by
          have h1 := HTl.out
          rw [List.length_append, List.length_append, List.length_append] at h1
          simp only [List.length_cons, List.length_nil] at h1
          omega
        clear hsp htl hy hx hrg hA
        obtain ⟨wo, hwo⟩ : ∃ wo, wo = wr := ⟨wr, rfl⟩
        subst hwo
        have HBo := HBx
        go_wp2_with (first
          | (at_builtin; refine wpList_appS (by rfl) _ _ (by rfl) X1.heap.size _ A (by rfl) HTx.out ⟨#[32, 32]⟩ (by rfl) (by show A.length + 2 ≤ 1000000000; omega) HBo.out.size ?_; intro v2 w2 t2 b2; have HT2 : Hid (TxB w2 X1.heap.size v2 (A ++ [32, 32])) := t2; have HB2 : Hid (Below X1.heap.size X1 w2) := HBo.out.trans b2; clear t2 b2)
          | go_in)
        go_loopw [3, 29] (fun v i wr => ∃ (m : Nat), m ≤ y.size ∧ i = .int .i64 (m : Int) ∧ Hid (TxB wr X1.heap.size v (A ++ [32, 32] ++ (y.data.toList.take m).flatMap sh)) ∧ Hid (Below X1.heap.size X1 wr)) (fun _ i _ => y.size - (intOf i).toNat)
        case atStart => exact ⟨0, by omega, rfl, by simp only [List.take_zero, List.flatMap_nil, List.append_nil]; exact HT2.out, HB2.out⟩
        case round =>
          clear HT2 HB2 HTx HBo HBx
          obtain ⟨m, hm, rfl, HTm, HBm⟩ := hrel
          have hm0 : (0 : Int) ≤ (m : Int) := by omega
          by_cases hme : m = y.size
          · have HT9 : Hid (TxB wr X1.heap.size u3 (A ++ [32, 32] ++ y.data.toList.flatMap sh)) := by
              have h := HTm.out
              rw [hme, List.take_of_length_le (by rw [Lib.size_eq]; exact Nat.le_refl _)] at h
              exact h
            have hbd : (A ++ [32, 32] ++ y.data.toList.flatMap sh).length + 1 ≤ 1000000000 := by
              have h1 := HTl.out
              rw [List.length_append] at h1
              omega
            subst hme
            clear HTm
            go_wp2_with (first
              | (at_builtin; refine wpList_appT (by rfl) _ _ (by rfl) X1.heap.size _ _ (by rfl) (HT9.out.alloc _) wr.heap.size 1 1 [10] (by rfl) (by rfl) (World.news_of_block (heap_alloc_new wr _)) hbd (by have := HBm.out.size; simp; omega) ?_; intro v' w' ho hb)
              | go_in)
            exact ⟨⟨j + 1, by omega, by go_num, by rw [HSp.out]; exact ho, HBm.out.trans (Lx.Below.after_alloc hb HBm.out.size)⟩, by simp [intOf]; omega⟩
          · have hml : m < y.size := by omega
            have hmt : (m : Int) < (y.size : Int) := by omega
            obtain ⟨c, hc⟩ : ∃ c, y[m]'hml = c := ⟨_, rfl⟩
            have hcl : y.data.toList[m]? = some c := by
              have := Lx.drop_at y m hml
              rw [hc] at this
              have h2 := congrArg List.head? this
              rw [List.head?_drop] at h2
              exact h2
            have hst := take_flat sh y.data.toList m c hcl
            have HSt : Hid ((y.data.toList.take (m + 1)).flatMap sh = (y.data.toList.take m).flatMap sh ++ sh c) := hst
            have hbd : (A ++ [32, 32] ++ (y.data.toList.take m).flatMap sh).length + 4 ≤ 1000000000 := by
              have h1 := HTl.out
              have h2 := take_le sh y.data.toList m
              rw [List.length_append, List.length_append] at h1 ⊢
              rw [List.length_append] at h1
              omega
            have HC : Hid (Calls Tryz.prog 22 #[u3, .int .u8 (c.toNat : Int)] wr fun e w' => ∃ v', e = .returned v' ∧ TxB w' X1.heap.size v' (A ++ [32, 32] ++ (y.data.toList.take m).flatMap sh ++ sh c) ∧ Below X1.heap.size wr w') := shown_any c X1.heap.size _ _ wr HTm.out hbd HBm.out.size
            clear hst hcl hbd HTm
            go_wp2_with (first
              | (go_at_call 22; refine HC.out.mono ?_; rintro e w5 ⟨v5, rfl, t5, b5⟩)
              | go_in)
            exact ⟨⟨m + 1, by omega, by go_num, by rw [HSt.out, ← List.append_assoc]; exact t5, HBm.out.trans b5⟩, by simp [intOf]; omega⟩
  · have HHd : Hid (hdR st = [101, 114, 114, 111, 114, 32] ++ Lib.itoa st ++ [10]) := by show hdR st = _; unfold hdR; rw [if_neg hs0]
    clear hs0
    go_upto_region 4 with (first
      | (go_at_call 17; refine HI.out.mono ?_; rintro e w2 ⟨s, rfl, hsl, hb2⟩; have hss : s.size ≤ 30 := by { rw [Lib.size_eq, hsl]; omega }; have hz : ((⟨#[101, 114, 114, 111, 114, 32]⟩ : ByteArray) ++ s ++ (⟨#[10]⟩ : ByteArray)).size = 6 + s.size + 1 := by { rw [ByteArray.size_append, ByteArray.size_append]; rfl }; have hyl : ((⟨#[101, 114, 114, 111, 114, 32]⟩ : ByteArray) ++ s ++ (⟨#[10]⟩ : ByteArray)).data.toList = [101, 114, 114, 111, 114, 32] ++ Lib.itoa st ++ [10] := by { rw [ByteArray.data_append, ByteArray.data_append, Array.toList_append, Array.toList_append, hsl] }; obtain ⟨tB, bB⟩ := tx_bytes w2 ((⟨#[101, 114, 114, 111, 114, 32]⟩ : ByteArray) ++ s ++ (⟨#[10]⟩ : ByteArray)) (by omega); have hcv := Lib.run_convert_string_bytes (P := Tryz.prog) w2 9 62 5 ((⟨#[101, 114, 114, 111, 114, 32]⟩ : ByteArray) ++ s ++ (⟨#[10]⟩ : ByteArray)) Tryz.underlying9 Tryz.underlying62 Tryz.underlying5; have hb9 : Below X1.heap.size X1 (Lib.bytesWorld w2 5 ((⟨#[101, 114, 114, 111, 114, 32]⟩ : ByteArray) ++ s ++ (⟨#[10]⟩ : ByteArray))) := (HN3.out.trans (hb2.mono HN3.out.size)).trans (bB.mono (Nat.le_trans HN3.out.size hb2.size)); rw [hyl, hz] at tB; rw [hz] at hcv; generalize Lib.bytesWorld w2 5 ((⟨#[101, 114, 114, 111, 114, 32]⟩ : ByteArray) ++ s ++ (⟨#[10]⟩ : ByteArray)) = W0 at hcv tB hb9; have HTx0 : Hid (TxB W0 w2.heap.size (.slice (some ⟨w2.heap.size, 0, none⟩) (6 + s.size + 1) (grownCap w2 (6 + s.size + 1) 0 5)) ([101, 114, 114, 111, 114, 32] ++ Lib.itoa st ++ [10])) := tB; have HB0 : Hid (Below X1.heap.size X1 W0) := hb9; have Hle : Hid (X1.heap.size ≤ w2.heap.size) := Nat.le_trans HN3.out.size hb2.size; clear tB bB hb9 hyl hsl hb2 hz)
      | go_in)
    obtain ⟨v, hd, W, hv, hW, HTx, HBx, HH⟩ : ∃ (v : Value) (hd : List UInt8) (W : World), (Value.slice (some ⟨w2.heap.size, 0, none⟩) (6 + s.size + 1) (grownCap w2 (6 + s.size + 1) 0 5)) = v ∧ W0 = W ∧ Hid (TxB W X1.heap.size v hd) ∧ Hid (Below X1.heap.size X1 W) ∧ Hid (hdR st = hd) := ⟨_, _, _, rfl, rfl, HTx0.out.down Hle.out, HB0.out, HHd.out⟩
    rw [hv, hW]
    clear hcv
    clear hv hW HHd
    clear hcc hX1 hX2 c0 c1 c2 c3 c4 HT3 HN3 HI HTx0 HB0 Hle hss
    obtain ⟨⟨c0, -⟩, ⟨c1, -⟩, ⟨c2, -⟩, ⟨c3, -⟩, ⟨c4, -⟩⟩ := (HF.out W HBx.out).1.cell5
    go_wp2
    go_loopw [3, 21] (fun v i wr => ∃ (j : Nat), j ≤ n ∧ i = .int .i64 (j : Int) ∧ Hid (TxB wr X1.heap.size v (hd ++ (L.take j).flatMap lnR)) ∧ Hid (Below X1.heap.size X1 wr)) (fun _ i _ => n - (intOf i).toNat)
    case atStart => exact ⟨0, by omega, rfl, by simp only [List.take_zero, List.flatMap_nil, List.append_nil]; exact HTx.out, HBx.out⟩
    case round =>
      clear HTx HBx c0 c1 c2 c3 c4
      obtain ⟨j, hj, rfl, HTx, HBx⟩ := hrel
      obtain ⟨⟨c0, -⟩, ⟨c1, -⟩, ⟨c2, -⟩, ⟨c3, -⟩, ⟨c4, -⟩⟩ := (HF.out wr HBx.out).1.cell5
      have hj0 : (0 : Int) ≤ (j : Int) := by omega
      by_cases hje : j = n
      · subst hje
        have HY : Hid (hd ++ (L.take j).flatMap lnR = rsS st L) := by
          show _ = rsS st L
          unfold rsS
          rw [HH.out, List.take_of_length_le (by rw [HLn.out]; exact Nat.le_refl _)]
        have hcv := conv_tx HTx.out
        rw [HY.out] at hcv
        have HB9 : Hid (Below w.heap.size w wr) := (HF.out wr HBx.out).2.1
        clear HTx HBx
        go_wp2
        go_ret
        unfold RsP
        exact ⟨_, rfl, rfl, HB9.out⟩
      · have hlt : j < n := by omega
        have hjt : (j : Int) < (n : Int) := by omega
        obtain ⟨x, hx⟩ : ∃ x, L[j]? = some x := ⟨L[j]'(by rw [HLn.out]; exact hlt), List.getElem?_eq_getElem _⟩
        obtain ⟨y, hy⟩ : ∃ y : ByteArray, y.data.toList = x := ⟨⟨x.toArray⟩, rfl⟩
        obtain ⟨g, o, rfl, -, hrg⟩ := (HF.out wr HBx.out).2.2 (by omega)
        have cy : wr.cell? ⟨g, o + j, none⟩ = some (.string y) := hrg j (.string y) (by rw [List.getElem?_map, hx, ← hy]; rfl)
        have hsp := take_flat lnR L j x hx
        have htl : (hd ++ (L.take (j + 1)).flatMap lnR).length ≤ 999999000 := by
          have h1 := HM.out
          have h2 := take_le lnR L (j + 1)
          unfold rsS at h1
          rw [HH.out, List.length_append] at h1
          rw [List.length_append]; omega
        obtain ⟨A, hA⟩ : ∃ A, hd ++ (L.take j).flatMap lnR = A := ⟨_, rfl⟩
        rw [hA] at HTx
        have HSp : Hid (hd ++ (L.take (j + 1)).flatMap lnR = A ++ [32, 32] ++ y.data.toList.flatMap sh ++ [10]) := by
          show hd ++ (L.take (j + 1)).flatMap lnR = _
          rw [hsp, ← List.append_assoc, hA, hy]
          unfold lnR
          simp only [List.append_assoc]
        have HTl : Hid ((A ++ [32, 32] ++ y.data.toList.flatMap sh ++ [10]).length ≤ 999999000) := by
          show (A ++ [32, 32] ++ y.data.toList.flatMap sh ++ [10]).length ≤ 999999000
          rw [← HSp.out]; exact htl
        have hyn : y.size ≤ 1000000000 := by
          rw [Lib.size_eq, hy]; exact HMl.out x (List.mem_of_getElem? hx)
        have hal : A.length + 2 ≤ 999999000 := by
          have h1 := HTl.out
          rw [List.length_append, List.length_append, List.length_append] at h1
          simp only [List.length_cons, List.length_nil] at h1
          omega
        clear hsp htl hy hx hrg hA
        obtain ⟨wo, hwo⟩ : ∃ wo, wo = wr := ⟨wr, rfl⟩
        subst hwo
        have HBo := HBx
        go_wp2_with (first
          | (at_builtin; refine wpList_appS (by rfl) _ _ (by rfl) X1.heap.size _ A (by rfl) HTx.out ⟨#[32, 32]⟩ (by rfl) (by show A.length + 2 ≤ 1000000000; omega) HBo.out.size ?_; intro v2 w2 t2 b2; have HT2 : Hid (TxB w2 X1.heap.size v2 (A ++ [32, 32])) := t2; have HB2 : Hid (Below X1.heap.size X1 w2) := HBo.out.trans b2; clear t2 b2)
          | go_in)
        go_loopw [3, 29] (fun v i wr => ∃ (m : Nat), m ≤ y.size ∧ i = .int .i64 (m : Int) ∧ Hid (TxB wr X1.heap.size v (A ++ [32, 32] ++ (y.data.toList.take m).flatMap sh)) ∧ Hid (Below X1.heap.size X1 wr)) (fun _ i _ => y.size - (intOf i).toNat)
        case atStart => exact ⟨0, by omega, rfl, by simp only [List.take_zero, List.flatMap_nil, List.append_nil]; exact HT2.out, HB2.out⟩
        case round =>
          clear HT2 HB2 HTx HBo HBx
          obtain ⟨m, hm, rfl, HTm, HBm⟩ := hrel
          have hm0 : (0 : Int) ≤ (m : Int) := by omega
          by_cases hme : m = y.size
          · have HT9 : Hid (TxB wr X1.heap.size u3 (A ++ [32, 32] ++ y.data.toList.flatMap sh)) := by
              have h := HTm.out
              rw [hme, List.take_of_length_le (by rw [Lib.size_eq]; exact Nat.le_refl _)] at h
              exact h
            have hbd : (A ++ [32, 32] ++ y.data.toList.flatMap sh).length + 1 ≤ 1000000000 := by
              have h1 := HTl.out
              rw [List.length_append] at h1
              omega
            subst hme
            clear HTm
            go_wp2_with (first
              | (at_builtin; refine wpList_appT (by rfl) _ _ (by rfl) X1.heap.size _ _ (by rfl) (HT9.out.alloc _) wr.heap.size 1 1 [10] (by rfl) (by rfl) (World.news_of_block (heap_alloc_new wr _)) hbd (by have := HBm.out.size; simp; omega) ?_; intro v' w' ho hb)
              | go_in)
            exact ⟨⟨j + 1, by omega, by go_num, by rw [HSp.out]; exact ho, HBm.out.trans (Lx.Below.after_alloc hb HBm.out.size)⟩, by simp [intOf]; omega⟩
          · have hml : m < y.size := by omega
            have hmt : (m : Int) < (y.size : Int) := by omega
            obtain ⟨c, hc⟩ : ∃ c, y[m]'hml = c := ⟨_, rfl⟩
            have hcl : y.data.toList[m]? = some c := by
              have := Lx.drop_at y m hml
              rw [hc] at this
              have h2 := congrArg List.head? this
              rw [List.head?_drop] at h2
              exact h2
            have hst := take_flat sh y.data.toList m c hcl
            have HSt : Hid ((y.data.toList.take (m + 1)).flatMap sh = (y.data.toList.take m).flatMap sh ++ sh c) := hst
            have hbd : (A ++ [32, 32] ++ (y.data.toList.take m).flatMap sh).length + 4 ≤ 1000000000 := by
              have h1 := HTl.out
              have h2 := take_le sh y.data.toList m
              rw [List.length_append, List.length_append] at h1 ⊢
              rw [List.length_append] at h1
              omega
            have HC : Hid (Calls Tryz.prog 22 #[u3, .int .u8 (c.toNat : Int)] wr fun e w' => ∃ v', e = .returned v' ∧ TxB w' X1.heap.size v' (A ++ [32, 32] ++ (y.data.toList.take m).flatMap sh ++ sh c) ∧ Below X1.heap.size wr w') := shown_any c X1.heap.size _ _ wr HTm.out hbd HBm.out.size
            clear hst hcl hbd HTm
            go_wp2_with (first
              | (go_at_call 22; refine HC.out.mono ?_; rintro e w5 ⟨v5, rfl, t5, b5⟩)
              | go_in)
            exact ⟨⟨m + 1, by omega, by go_num, by rw [HSt.out, ← List.append_assoc]; exact t5, HBm.out.trans b5⟩, by simp [intOf]; omega⟩
end Go.Proofs.YtichbejmelkjeaaGreatDoor

namespace Go.Proofs.YtichbejmelkjeaaGreatDoor
open Go.RowKit

theorem dd_pos (d : Nat) (h : d < 10) : (UInt8.ofNat (48 + d)).toNat = 48 + d := by
  rw [UInt8.toNat_ofNat']
  omega
theorem dec_digits (u : Nat) : (∀ c ∈ Lib.decDigits u, 48 ≤ c.toNat ∧ c.toNat ≤ 57) ∧ Lib.decDigits u ≠ [] ∧ Lx.dv 0 (Lib.decDigits u) = u := by
  induction u using Nat.strongRecOn with
  | ind u ih =>
    rw [Lib.decDigits]
    by_cases h : u < 10
    · rw [dif_pos h]
      have e := dd_pos u h
      refine ⟨fun c hc => ?_, by simp, ?_⟩
      · rw [List.mem_singleton.1 hc, e]; omega
      · rw [Lx.dv_cons, Lx.dv_nil, e]; omega
    · rw [dif_neg h]
      obtain ⟨h1, h2, h3⟩ := ih (u / 10) (by omega)
      have e := dd_pos (u % 10) (by omega)
      refine ⟨fun c hc => ?_, by simp, ?_⟩
      · rcases List.mem_append.1 hc with hc | hc
        · exact h1 c hc
        · rw [List.mem_singleton.1 hc, e]; omega
      · rw [Lx.dv_snoc, h3, e]; omega
theorem dec_inj {u v : Nat} (h : Lib.decDigits u = Lib.decDigits v) : u = v := by rw [← (dec_digits u).2.2, ← (dec_digits v).2.2, h]
/-- A numeral: digits, or a sign and digits. -/
theorem itoa_form (n : Int) : (0 ≤ n ∧ Lib.itoa n = Lib.decDigits n.toNat) ∨ (n < 0 ∧ Lib.itoa n = 45 :: Lib.decDigits n.natAbs) := by
  unfold Lib.itoa
  by_cases h : n < 0
  · exact .inr ⟨h, by rw [if_pos h]⟩
  · exact .inl ⟨by omega, by rw [if_neg h]⟩
theorem dec_head (u : Nat) : ∃ c r, Lib.decDigits u = c :: r ∧ 48 ≤ c.toNat ∧ c.toNat ≤ 57 := by
  obtain ⟨h1, h2, _⟩ := dec_digits u
  cases hd : Lib.decDigits u with
  | nil => exact absurd hd h2
  | cons c r => rw [hd] at h1; exact ⟨c, r, rfl, h1 c (by simp)⟩
theorem itoa_inj {a b : Int} (h : Lib.itoa a = Lib.itoa b) : a = b := by
  rcases itoa_form a with ⟨ha, ea⟩ | ⟨ha, ea⟩ <;> rcases itoa_form b with ⟨hb, eb⟩ | ⟨hb, eb⟩ <;> rw [ea, eb] at h
  · have := dec_inj h; omega
  · obtain ⟨c, r, e, hc⟩ := dec_head a.toNat
    rw [e] at h
    simp only [List.cons.injEq] at h
    rw [h.1] at hc
    exact absurd hc.1 (by decide)
  · obtain ⟨c, r, e, hc⟩ := dec_head b.toNat
    rw [e] at h
    simp only [List.cons.injEq] at h
    rw [← h.1] at hc
    exact absurd hc.1 (by decide)
  · simp only [List.cons.injEq, true_and] at h
    have := dec_inj h; omega
theorem itoa_bytes (n : Int) : ∀ d ∈ Lib.itoa n, 32 ≤ d.toNat ∧ d.toNat ≤ 126 := by
  intro d hd
  rcases itoa_form n with ⟨_, e⟩ | ⟨_, e⟩ <;> rw [e] at hd
  · have := (dec_digits n.toNat).1 d hd; omega
  · rcases List.mem_cons.1 hd with rfl | hd
    · decide
    · have := (dec_digits n.natAbs).1 d hd; omega

/-! No two responses have one text. -/
theorem seg_inj : ∀ (a b x y : List UInt8), a ++ 10 :: x = b ++ 10 :: y → 10 ∉ a → 10 ∉ b → a = b ∧ x = y := by
  intro a
  induction a with
  | nil =>
    intro b x y h ha hb
    cases b with
    | nil => simp at h; exact ⟨rfl, h⟩
    | cons d b =>
      rw [List.nil_append, List.cons_append] at h
      injection h with h1 h2
      exact absurd (by rw [← h1]; simp) hb
  | cons c a ih =>
    intro b x y h ha hb
    cases b with
    | nil =>
      rw [List.nil_append, List.cons_append] at h
      injection h with h1 h2
      exact absurd (by rw [h1]; simp) ha
    | cons d b =>
      rw [List.cons_append, List.cons_append] at h
      injection h with h1 h2
      obtain ⟨e1, e2⟩ := ih b x y h2 (fun q => ha (by simp [q])) (fun q => hb (by simp [q]))
      exact ⟨by rw [h1, e1], e2⟩
def uhx (c : UInt8) : Nat := if c.toNat ≤ 57 then c.toNat - 48 else c.toNat - 87
theorem uhx_all : ∀ n : Fin 16, uhx (Lx.hx n.val) = n.val := by decide
theorem uhx_hx (n : Nat) (h : n < 16) : uhx (Lx.hx n) = n := uhx_all ⟨n, h⟩
/-- The byte that stands first, read back. -/
def dsh (l : List UInt8) : UInt8 × List UInt8 := match l with
  | [] => (0, [])
  | c :: r => if c = 92 then (match r with
    | [] => (0, [])
    | d :: r => if d = 110 then (10, r) else if d = 92 then (92, r) else (match r with | a :: b :: r => (UInt8.ofNat (16 * uhx a + uhx b), r) | _ => (0, [])))
    else (c, r)
theorem dsh_sh (c : UInt8) (x : List UInt8) : dsh (sh c ++ x) = (c, x) := by
  unfold sh
  by_cases h1 : c = 10
  · subst h1; rfl
  · rw [if_neg h1]
    by_cases h2 : c = 92
    · subst h2; rfl
    · rw [if_neg h2]
      by_cases h3 : 32 ≤ c.toNat ∧ c.toNat ≤ 126
      · rw [if_pos h3]
        show (if c = 92 then _ else (c, x)) = _
        rw [if_neg h2]
      · rw [if_neg h3]
        have hc := UInt8.toNat_lt c
        show (UInt8.ofNat (16 * uhx (Lx.hx (c.toNat / 16)) + uhx (Lx.hx (c.toNat % 16))), x) = (c, x)
        rw [uhx_hx _ (by omega), uhx_hx _ (by omega), show 16 * (c.toNat / 16) + c.toNat % 16 = c.toNat from by omega, UInt8.ofNat_toNat]
theorem sh_ne (c : UInt8) : sh c ≠ [] := by
  unfold sh
  split
  · simp
  · split
    · simp
    · split <;> simp
theorem shs_inj : ∀ (a b : List UInt8), a.flatMap sh = b.flatMap sh → a = b := by
  intro a
  induction a with
  | nil =>
    intro b h
    cases b with
    | nil => rfl
    | cons d b =>
      rw [List.flatMap_nil, List.flatMap_cons] at h
      have := congrArg List.length h
      rw [List.length_append] at this
      have h2 : (sh d).length ≠ 0 := fun e => sh_ne d (List.eq_nil_of_length_eq_zero e)
      rw [List.length_nil] at this; omega
  | cons c a ih =>
    intro b h
    cases b with
    | nil =>
      rw [List.flatMap_nil, List.flatMap_cons] at h
      have := congrArg List.length h
      rw [List.length_append] at this
      have h2 : (sh c).length ≠ 0 := fun e => sh_ne c (List.eq_nil_of_length_eq_zero e)
      rw [List.length_nil] at this; omega
    | cons d b =>
      rw [List.flatMap_cons, List.flatMap_cons] at h
      have h2 := congrArg dsh h
      rw [dsh_sh, dsh_sh] at h2
      injection h2 with h3 h4
      rw [h3, ih b h4]
theorem sh_ten_all : ∀ n : Fin 256, 10 ∉ sh (UInt8.ofNat n.val) := by decide +kernel
theorem sh_ten (c : UInt8) : 10 ∉ sh c := by
  have := sh_ten_all ⟨c.toNat, UInt8.toNat_lt c⟩
  rwa [UInt8.ofNat_toNat] at this
theorem body_ten (l : List UInt8) : 10 ∉ [32, 32] ++ l.flatMap sh := by
  intro h
  rcases List.mem_append.1 h with h | h
  · simp at h
  · obtain ⟨c, -, hc⟩ := List.mem_flatMap.1 h
    exact sh_ten c hc
theorem lns_inj : ∀ (A B : List (List UInt8)), A.flatMap lnR = B.flatMap lnR → A = B := by
  have hl : ∀ (l : List UInt8) (x : List UInt8), lnR l ++ x = ([32, 32] ++ l.flatMap sh) ++ 10 :: x := fun l x => by unfold lnR; simp
  intro A
  induction A with
  | nil =>
    intro B h
    cases B with
    | nil => rfl
    | cons b B =>
      rw [List.flatMap_nil, List.flatMap_cons, hl] at h
      have := congrArg List.length h
      simp at this
  | cons a A ih =>
    intro B h
    cases B with
    | nil =>
      rw [List.flatMap_nil, List.flatMap_cons, hl] at h
      have := congrArg List.length h
      simp at this
    | cons b B =>
      rw [List.flatMap_cons, List.flatMap_cons, hl, hl] at h
      obtain ⟨h1, h2⟩ := seg_inj _ _ _ _ h (body_ten a) (body_ten b)
      rw [shs_inj a b (by simpa using h1), ih B h2]
def hd0 (st : Int) : List UInt8 := if st = 0 then [111, 107] else [101, 114, 114, 111, 114, 32] ++ Lib.itoa st
theorem hd_eq (st : Int) (x : List UInt8) : hdR st ++ x = hd0 st ++ 10 :: x := by
  unfold hdR hd0
  split <;> simp
theorem hd_ten (st : Int) : 10 ∉ hd0 st := by
  unfold hd0
  split
  · simp
  · intro h
    rcases List.mem_append.1 h with h | h
    · simp at h
    · have := itoa_bytes st 10 h
      simp at this
theorem hd_inj {a b : Int} (h : hd0 a = hd0 b) : a = b := by
  unfold hd0 at h
  by_cases h1 : a = 0
  · by_cases h2 : b = 0
    · omega
    · rw [if_pos h1, if_neg h2] at h; simp at h
  · by_cases h2 : b = 0
    · rw [if_neg h1, if_pos h2] at h; simp at h
    · rw [if_neg h1, if_neg h2] at h
      exact itoa_inj (List.append_cancel_left h)
theorem rs_inj {a b : Int} {A B : List (List UInt8)} (h : rsS a A = rsS b B) : a = b ∧ A = B := by
  unfold rsS at h
  rw [hd_eq, hd_eq] at h
  obtain ⟨h1, h2⟩ := seg_inj _ _ _ _ h (hd_ten a) (hd_ten b)
  exact ⟨hd_inj h1, lns_inj A B h2⟩
/-- How long a text is at most. -/
theorem ln_len (l : List UInt8) : (lnR l).length ≤ 4 * l.length + 3 := by
  have : (l.flatMap sh).length ≤ 4 * l.length := by
    induction l with
    | nil => simp
    | cons c l ih =>
      rw [List.flatMap_cons, List.length_append, List.length_cons]
      have := sh_len c
      omega
  unfold lnR
  rw [List.length_append, List.length_append]
  simp only [List.length_cons, List.length_nil]
  omega
theorem rs_len (st : Int) (hst : -9223372036854775808 ≤ st ∧ st ≤ 9223372036854775807) (L : List (List UInt8)) : (rsS st L).length ≤ 100 + 4 * (L.map (fun x => x.length + 1)).sum := by
  have hl : (L.flatMap lnR).length ≤ 4 * (L.map (fun x => x.length + 1)).sum := by
    induction L with
    | nil => simp
    | cons a L ih =>
      rw [List.flatMap_cons, List.length_append, List.map_cons, List.sum_cons]
      have := ln_len a
      omega
  have hh : (hdR st).length ≤ 100 := by
    unfold hdR
    have := Lib.itoa_length_le st hst.1 hst.2
    split
    · simp
    · simp; omega
  unfold rsS
  rw [List.length_append]
  omega
end Go.Proofs.YtichbejmelkjeaaGreatDoor
