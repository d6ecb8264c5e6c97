import Derived.Test.YtgncoeihlfcaiaaDoorNoz
import Derived.Test.YtgncoeihlfcaiaaDoorApartZ
namespace Go.Proofs.YtgncoeihlfcaiaaDoor
open Go.RowKit

theorem cell_newX (w : World) (cs : Array Value) (t : TypeId) (k : Nat) (v : Value) (hv : cs[k]? = some v) : (w.alloc (.cells cs t)).cell? ⟨w.heap.size, k, none⟩ = some v := by
  have h := World.alloc_heap_new w (.cells cs t)
  simp only [World.cell?, h]
  simpa using hv
theorem drewN_below (w : World) (n : Nat) : Below w.heap.size w (w.drewN n) := ⟨rfl, rfl, rfl, Nat.le_refl _, fun _ _ => rfl⟩

/-- Two rows, the one there before the other was begun, lie apart. -/
theorem rows_apart {w w' : World} {b b' n m : Nat} {v u : Value} {xs ys : List Value} (h : w.ownsRow b 9 1 v n xs) (k : w'.ownsRow b' 9 1 u m ys) (hle : w.heap.size ≤ b') : v.ownBlock ≠ u.ownBlock ∨ v.ownBlock = none := by
  rcases h.2 with ⟨rfl, _⟩ | ⟨g, cap, cur, rfl, _, hg, _⟩
  · exact .inr rfl
  · left
    have h1 := (Array.getElem?_eq_some_iff.1 hg).1
    rcases k.2 with ⟨rfl, _⟩ | ⟨g', cap', cur', rfl, hb', _⟩
    · simp [Value.ownBlock]
    · intro e
      simp [Value.ownBlock] at e
      omega
theorem rows_apart' {w w' : World} {b b' n m : Nat} {v u : Value} {xs ys : List Value} (h : w.ownsRow b 9 1 v n xs) (k : w'.ownsRow b' 9 1 u m ys) (hle : w.heap.size ≤ b') : u.ownBlock ≠ v.ownBlock ∨ u.ownBlock = none := by
  cases hu : u.ownBlock with
  | none => exact .inr rfl
  | some g =>
    left
    rcases rows_apart h k hle with h1 | h1
    · rw [hu] at h1; exact h1.symm
    · rw [h1]; simp

/-- What a call of Excerpt hands back. -/
def Got (w w' : World) (l : List ByteArray) (ov : Option Addr) (cap : Nat) : Prop :=
  w'.ownsRow w.heap.size 9 1 (.slice ov l.length cap) l.length (tc l) ∧ (l.length = 0 → (.slice ov l.length cap : Value) = .slice none 0 0)

abbrev onetwo : ByteArray := ⟨#[111, 110, 101, 10, 116, 119, 111]⟩
theorem onetwo_size : onetwo.size = 7 := by decide
theorem exS_one : (exS onetwo 5 1).2 = 0 := by
  unfold exS
  rw [onetwo_size, if_neg (by decide), if_neg (by decide)]

theorem got_ex (s : ByteArray) (at_ ar : Int) (l : List ByteArray) (f : Int) (w : World) (hs : s.size ≤ 140737488355328) (ht : Tab w) (hl : (exS s at_ ar).1 = l) (hf : (exS s at_ ar).2 = f) :
    Calls Tryd.prog 4 #[.string s, .int .i64 at_, .int .i64 ar] w fun e w' => (∃ ov cap, e = .returned (.tuple #[.slice ov l.length cap, .int .i64 f]) ∧ Hid (Got w w' l ov cap)) ∧ Below w.heap.size w w' := by
  refine (ex_any s at_ ar w hs ht).mono fun e w' h => ?_
  obtain ⟨⟨v, h1, h2, h3⟩, hb⟩ := h
  rw [hl] at h2 h3
  rw [hf] at h1
  obtain ⟨ov, cap, rfl, _⟩ := own_form h2.out
  exact ⟨⟨ov, cap, h1, h2.out, h3.out⟩, hb⟩
theorem got_rex (s : ByteArray) (at_ ar : Int) (l : List ByteArray) (f : Int) (w : World) (hs : s.size ≤ 140737488355328) (ht : Tab w) (hl : (exS s at_ ar).1 = l) (hf : (exS s at_ ar).2 = f) :
    Calls Tryd.prog 5 #[.string s, .int .i64 at_, .int .i64 ar] w fun e w' => (∃ ov cap, e = .returned (.tuple #[.slice ov l.length cap, .int .i64 f]) ∧ Hid (Got w w' l ov cap)) ∧ Below w.heap.size w w' := by
  refine (rex_any s at_ ar w hs ht).mono fun e w' h => ?_
  obtain ⟨⟨v, h1, h2, h3⟩, hb⟩ := h
  rw [hl] at h2 h3
  rw [hf] at h1
  obtain ⟨ov, cap, rfl, _⟩ := own_form h2.out
  exact ⟨⟨ov, cap, h1, h2.out, h3.out⟩, hb⟩

theorem same_got (l : List ByteArray) (hl : l.length ≤ 90) (w : World) (b : Nat) (va vb : Value) (ha : w.ownsRow b 9 1 va l.length (tc l)) (hb : w.ownsRow b 9 1 vb l.length (tc l)) :
    Calls Tryd.prog 6 #[va, vb] w fun e w' => e = .returned (.bool true) ∧ Below w.heap.size w w' :=
  (same_any va vb l b w (by omega) ha hb).mono fun e w' h => by
    obtain ⟨h1, n, rfl⟩ := h
    exact ⟨h1, drewN_below w n⟩

theorem apart5 (w : World) (b : Nat) (hb : b ≤ w.heap.size) (A T O' Z : Value) (l l2 : List ByteArray) (hl : l.length ≤ 90) (hl2 : l2.length ≤ 90)
    (hA : w.ownsRow b 9 1 A l.length (tc l)) (hT : w.ownsRow b 9 1 T l.length (tc l)) (hO : w.ownsRow b 9 1 O' l2.length (tc l2)) (hZ : w.ownsRow b 9 1 Z l.length (tc l))
    (zA : l.length = 0 → A = .slice none 0 0) (zT : l.length = 0 → T = .slice none 0 0) (zO : l2.length = 0 → O' = .slice none 0 0) (zZ : l.length = 0 → Z = .slice none 0 0)
    (dAT : A.ownBlock ≠ T.ownBlock ∨ A.ownBlock = none) (dTA : T.ownBlock ≠ A.ownBlock ∨ T.ownBlock = none) (dAO : A.ownBlock ≠ O'.ownBlock ∨ A.ownBlock = none) (dOA : O'.ownBlock ≠ A.ownBlock ∨ O'.ownBlock = none)
    (dTO : T.ownBlock ≠ O'.ownBlock ∨ T.ownBlock = none) (dOT : O'.ownBlock ≠ T.ownBlock ∨ O'.ownBlock = none) (hzs : ∀ c, (tc l)[0]? ≠ some (.string (sg c 0)))
    (eA : Z.ownBlock ≠ A.ownBlock ∨ Z.ownBlock = none) (eT : Z.ownBlock ≠ T.ownBlock ∨ Z.ownBlock = none) (eO : Z.ownBlock ≠ O'.ownBlock ∨ Z.ownBlock = none) :
    Calls Tryd.prog 7 #[.slice (some ⟨w.heap.size, 0, none⟩) 5 5] (w.alloc (.cells #[A, T, O', .slice none 0 0, .slice none 0 0] 26)) fun e w' => e = .returned (.bool true) ∧ Below b w w' ∧ w'.ownsRow b 9 1 Z l.length (tc l) := by
  have nn : ∀ v : Value, v.ownBlock ≠ (Value.slice none 0 0).ownBlock ∨ v.ownBlock = none := fun v => by
    cases hv : v.ownBlock with
    | none => exact .inr rfl
    | some g => exact .inl (by simp [Value.ownBlock])
  refine (apart_keep (w.alloc (.cells #[A, T, O', .slice none 0 0, .slice none 0 0] 26)) b w.heap.size 5 (fun k => match k with | 0 => A | 1 => T | 2 => O' | _ => .slice none 0 0) (fun k => match k with | 0 => l.length | 1 => l.length | 2 => l2.length | _ => 0) (fun k => match k with | 0 => tc l | 1 => tc l | 2 => tc l2 | _ => [])
    (by omega) ⟨⟨_, World.alloc_heap_new w _, ?out⟩, ?rows⟩ ?len ?nil ?apart ?few (by simp; omega) Z l.length (tc l) (hZ.alloc _) zZ hzs ?keep).mono ?_
  case out =>
    intro k hk
    match k, hk with
    | 0, _ => rfl
    | 1, _ => rfl
    | 2, _ => rfl
    | 3, _ => rfl
    | 4, _ => rfl
    | k + 5, h => omega
  case rows =>
    intro k hk
    match k, hk with
    | 0, _ => exact hA.alloc _
    | 1, _ => exact hT.alloc _
    | 2, _ => exact hO.alloc _
    | 3, _ => exact World.ownsRow_nil _ _ _ _
    | 4, _ => exact World.ownsRow_nil _ _ _ _
    | k + 5, h => omega
  case len =>
    intro k hk
    match k, hk with
    | 0, _ => exact tc_len l
    | 1, _ => exact tc_len l
    | 2, _ => exact tc_len l2
    | 3, _ => rfl
    | 4, _ => rfl
    | k + 5, h => omega
  case nil =>
    intro k hk
    match k, hk with
    | 0, _ => exact zA
    | 1, _ => exact zT
    | 2, _ => exact zO
    | 3, _ => exact fun _ => rfl
    | 4, _ => exact fun _ => rfl
    | k + 5, h => omega
  case apart =>
    intro x y hx hy hxy
    match x, y, hx, hy with
    | 0, 0, _, _ => exact absurd rfl hxy
    | 0, 1, _, _ => exact dAT.symm
    | 0, 2, _, _ => exact dAO.symm
    | 0, 3, _, _ => exact (nn A).symm
    | 0, 4, _, _ => exact (nn A).symm
    | 1, 0, _, _ => exact dTA.symm
    | 1, 1, _, _ => exact absurd rfl hxy
    | 1, 2, _, _ => exact dTO.symm
    | 1, 3, _, _ => exact (nn T).symm
    | 1, 4, _, _ => exact (nn T).symm
    | 2, 0, _, _ => exact dOA.symm
    | 2, 1, _, _ => exact dOT.symm
    | 2, 2, _, _ => exact absurd rfl hxy
    | 2, 3, _, _ => exact (nn O').symm
    | 2, 4, _, _ => exact (nn O').symm
    | 3, _, _, _ => exact .inl rfl
    | 4, _, _, _ => exact .inl rfl
    | x + 5, _, h, _ => omega
    | _, y + 5, _, h => omega
  case few =>
    intro k hk
    match k, hk with
    | 0, _ => show l.length ≤ _; omega
    | 1, _ => show l.length ≤ _; omega
    | 2, _ => show l2.length ≤ _; omega
    | 3, _ => show 0 ≤ _; omega
    | 4, _ => show 0 ≤ _; omega
    | k + 5, h => omega
  case keep =>
    intro k hk
    match k, hk with
    | 0, _ => exact eA
    | 1, _ => exact eT
    | 2, _ => exact eO
    | 3, _ => exact nn Z
    | 4, _ => exact nn Z
    | k + 5, h => omega
  rintro e w' ⟨rfl, h1, h2⟩
  exact ⟨rfl, ((Below.refl b w).alloc hb _).trans h1, h2⟩

set_option maxRecDepth 100000 in
set_option maxHeartbeats 2000000 in
theorem excerpts_any (s : ByteArray) (at_ li co n ar : Int) (w : World) (hs : s.size ≤ 140737488355328) (ht : Tab w) :
    Calls Tryd.prog 3 #[.agg #[.string s, .int .i64 at_, .int .i64 li, .int .i64 co, .int .i64 n, .int .i64 ar]] w fun e w' => e = .returned (.bool true) ∧ Below w.heap.size w w' := by
  obtain ⟨w1, hw1⟩ : ∃ w1, w.alloc (.cells #[.string s, .int .i64 at_, .int .i64 li, .int .i64 co, .int .i64 n, .int .i64 ar] 25) = w1 := ⟨_, rfl⟩
  have z1 : w.heap.size < w1.heap.size := by rw [← hw1]; simp
  have B1 : Hid (Below w.heap.size w w1) := by show Below _ _ _; rw [← hw1]; exact (Below.refl _ w).alloc (Nat.le_refl _) _
  have HT : Hid (Tab w1) := ht.below B1.out
  have CC : Hid (∀ w', Below w1.heap.size w1 w' → w'.cell? ⟨w.heap.size, 0, none⟩ = some (.string s) ∧ w'.cell? ⟨w.heap.size, 1, none⟩ = some (.int .i64 at_) ∧ w'.cell? ⟨w.heap.size, 5, none⟩ = some (.int .i64 ar)) := fun w' hb => by
    have q : ∀ (k : Nat) (v : Value), #[.string s, .int .i64 at_, .int .i64 li, .int .i64 co, .int .i64 n, .int .i64 ar][k]? = some v → w'.cell? ⟨w.heap.size, k, none⟩ = some v := fun k v hv =>
      (hb.cell (p := ⟨w.heap.size, k, none⟩) z1).trans (by rw [← hw1]; exact cell_newX _ _ _ _ _ hv)
    exact ⟨q 0 _ rfl, q 1 _ rfl, q 5 _ rfl⟩
  obtain ⟨l, hl⟩ : ∃ l, (exS s at_ ar).1 = l := ⟨_, rfl⟩
  obtain ⟨f, hf⟩ : ∃ f, (exS s at_ ar).2 = f := ⟨_, rfl⟩
  obtain ⟨l2, hl2⟩ : ∃ l2, (exS onetwo 5 1).1 = l2 := ⟨_, rfl⟩
  have HL90 : Hid (l.length ≤ 90) := by show _ ≤ _; rw [← hl]; exact exS_bound _ _ _
  have HL290 : Hid (l2.length ≤ 90) := by show _ ≤ _; rw [← hl2]; exact exS_bound _ _ _
  have HSG : Hid (∀ c, (tc l)[0]? ≠ some (.string (sg c 0))) := fun c => by rw [← hl]; exact exS_sg _ _ _ c
  have H4 : Hid (∀ w', Below w1.heap.size w1 w' → Calls Tryd.prog 4 #[.string s, .int .i64 at_, .int .i64 ar] w' fun e w'' => (∃ ov cap, e = .returned (.tuple #[.slice ov l.length cap, .int .i64 f]) ∧ Hid (Got w' w'' l ov cap)) ∧ Below w'.heap.size w' w'') := fun w' hb => got_ex s at_ ar l f w' hs (HT.out.below hb) hl hf
  have H5 : Hid (∀ w', Below w1.heap.size w1 w' → Calls Tryd.prog 5 #[.string s, .int .i64 at_, .int .i64 ar] w' fun e w'' => (∃ ov cap, e = .returned (.tuple #[.slice ov l.length cap, .int .i64 f]) ∧ Hid (Got w' w'' l ov cap)) ∧ Below w'.heap.size w' w'') := fun w' hb => got_rex s at_ ar l f w' hs (HT.out.below hb) hl hf
  have H4o : Hid (∀ w', Below w1.heap.size w1 w' → Calls Tryd.prog 4 #[.string onetwo, .int .i64 5, .int .i64 1] w' fun e w'' => (∃ ov cap, e = .returned (.tuple #[.slice ov l2.length cap, .int .i64 0]) ∧ Hid (Got w' w'' l2 ov cap)) ∧ Below w'.heap.size w' w'') := fun w' hb => got_ex onetwo 5 1 l2 0 w' (by rw [onetwo_size]; omega) (HT.out.below hb) hl2 exS_one
  have H5o : Hid (∀ w', Below w1.heap.size w1 w' → Calls Tryd.prog 5 #[.string onetwo, .int .i64 5, .int .i64 1] w' fun e w'' => (∃ ov cap, e = .returned (.tuple #[.slice ov l2.length cap, .int .i64 0]) ∧ Hid (Got w' w'' l2 ov cap)) ∧ Below w'.heap.size w' w'') := fun w' hb => got_rex onetwo 5 1 l2 0 w' (by rw [onetwo_size]; omega) (HT.out.below hb) hl2 exS_one
  have H4e : Hid (∀ w', Calls Tryd.prog 4 #[.string ⟨#[]⟩, .int .i64 1, .int .i64 0] w' fun e w'' => e = .returned (.tuple #[.slice none 0 0, .int .i64 10]) ∧ Below w'.heap.size w' w'') := fun w' => ex_no ⟨#[]⟩ 1 0 w' (by decide) (.inr (by decide))
  clear hl hf hl2 ht hs
  obtain ⟨c1, c2, c3⟩ := CC.out w1 (Below.refl _ _)
  go_enter Tryd.func3, Tryd.ntmps3
  go_wp2_with fail
  refine (H4.out w1 (Below.refl _ _)).mono ?_
  rintro e w2 ⟨⟨o1, k1, rfl, g1⟩, hb⟩
  have b2 : Below w1.heap.size w1 w2 := hb
  clear hb c1 c2 c3 hw1
  obtain ⟨c1, c2, c3⟩ := CC.out w2 b2
  go_wp2_with fail
  refine (H5.out w2 b2).mono ?_
  rintro e w3 ⟨⟨o2, k2, rfl, g2⟩, hb23⟩
  have b3 : Below w1.heap.size w1 w3 := b2.trans (hb23.mono b2.size)
  have r1 : Hid (w3.ownsRow w1.heap.size 9 1 (.slice o1 l.length k1) l.length (tc l)) := own_stays g1.out.1 hb23
  have r2 : Hid (w3.ownsRow w1.heap.size 9 1 (.slice o2 l.length k2) l.length (tc l)) := own_low g2.out.1 b2.size
  clear c1 c2 c3
  go_wp2_with fail
  refine (same_got l HL90.out w3 _ _ _ r1.out r2.out).mono ?_
  rintro e w4 ⟨rfl, hb34⟩
  have b4 : Below w1.heap.size w1 w4 := b3.trans (hb34.mono b3.size)
  obtain ⟨c1, c2, c3⟩ := CC.out w4 b4
  go_wp2_with fail
  refine (H4.out w4 b4).mono ?_
  rintro e w5 ⟨⟨o3, k3, rfl, g3⟩, hb45⟩
  have b5 : Below w1.heap.size w1 w5 := b4.trans (hb45.mono b4.size)
  clear c1 c2 c3
  go_wp2_with fail
  refine (H4o.out w5 b5).mono ?_
  rintro e w6 ⟨⟨o4, k4, rfl, g4⟩, hb56⟩
  have b6 : Below w1.heap.size w1 w6 := b5.trans (hb56.mono b5.size)
  go_wp2_with fail
  refine (H5o.out w6 b6).mono ?_
  rintro e w7 ⟨⟨o5, k5, rfl, g5⟩, hb67⟩
  have b7 : Below w1.heap.size w1 w7 := b6.trans (hb67.mono b6.size)
  have hb57 : Below w5.heap.size w5 w7 := hb56.trans (hb67.mono hb56.size)
  have hb37 : Below w3.heap.size w3 w7 := (hb34.trans (hb45.mono hb34.size)).trans (hb57.mono (Nat.le_trans hb34.size hb45.size))
  have s1 : Hid (w7.ownsRow w1.heap.size 9 1 (.slice o1 l.length k1) l.length (tc l)) := own_stays r1.out hb37
  have s2 : Hid (w7.ownsRow w1.heap.size 9 1 (.slice o2 l.length k2) l.length (tc l)) := own_stays r2.out hb37
  have s3 : Hid (w7.ownsRow w1.heap.size 9 1 (.slice o3 l.length k3) l.length (tc l)) := own_stays (own_low g3.out.1 b4.size) hb57
  have s4 : Hid (w7.ownsRow w1.heap.size 9 1 (.slice o4 l2.length k4) l2.length (tc l2)) := own_stays (own_low g4.out.1 b5.size) hb67
  have s5 : Hid (w7.ownsRow w1.heap.size 9 1 (.slice o5 l2.length k5) l2.length (tc l2)) := own_low g5.out.1 b6.size
  have zz : Hid (w2.heap.size ≤ w4.heap.size ∧ w2.heap.size ≤ w5.heap.size ∧ w3.heap.size ≤ w4.heap.size ∧ w3.heap.size ≤ w5.heap.size) := by
    have y1 := hb23.size
    have y2 := hb34.size
    have y3 := hb45.size
    exact ⟨by omega, by omega, by omega, by omega⟩
  clear b2 b3 b4 b5 b6 hb23 hb34 hb45 hb56 hb67 hb57 hb37 r1 r2 g5
  go_wp2_with fail
  refine (same_got l HL90.out w7 _ _ _ s1.out s2.out).mono ?_
  rintro e w8 ⟨rfl, hb78⟩
  go_wp2_with fail
  refine (same_got l HL90.out w8 _ _ _ (own_stays s3.out hb78) (own_stays s2.out hb78)).mono ?_
  rintro e w9 ⟨rfl, hb89⟩
  have hb79 : Below w7.heap.size w7 w9 := hb78.trans (hb89.mono hb78.size)
  clear hb78 hb89
  go_wp2_with fail
  refine (same_got l2 HL290.out w9 _ _ _ (own_stays s4.out hb79) (own_stays s5.out hb79)).mono ?_
  rintro e w10 ⟨rfl, hb9⟩
  have hb710 : Below w7.heap.size w7 w10 := hb79.trans (hb9.mono hb79.size)
  clear hb79 hb9 s5
  go_wp2_with fail
  refine (H4e.out w10).mono ?_
  rintro e w11 ⟨rfl, hb11⟩
  go_wp2_with fail
  refine (H4e.out w11).mono ?_
  rintro e w12 ⟨rfl, hb12⟩
  have hb712 : Below w7.heap.size w7 w12 := (hb710.trans (hb11.mono hb710.size)).trans (hb12.mono (Nat.le_trans hb710.size hb11.size))
  clear hb710 hb11 hb12
  go_wp2_with fail
  have b12 : Below w1.heap.size w1 w12 := b7.trans (hb712.mono b7.size)
  refine (apart5 w12 w1.heap.size b12.size (.slice o1 l.length k1) (.slice o3 l.length k3) (.slice o4 l2.length k4) (.slice o2 l.length k2) l l2 HL90.out HL290.out
    (own_stays s1.out hb712) (own_stays s3.out hb712) (own_stays s4.out hb712) (own_stays s2.out hb712) g1.out.2 g3.out.2 g4.out.2 g2.out.2
    (rows_apart g1.out.1 g3.out.1 zz.out.1) (rows_apart' g1.out.1 g3.out.1 zz.out.1) (rows_apart g1.out.1 g4.out.1 zz.out.2.1) (rows_apart' g1.out.1 g4.out.1 zz.out.2.1)
    (rows_apart g3.out.1 g4.out.1 (Nat.le_refl _)) (rows_apart' g3.out.1 g4.out.1 (Nat.le_refl _)) HSG.out
    (rows_apart' g1.out.1 g2.out.1 (Nat.le_refl _)) (rows_apart g2.out.1 g3.out.1 zz.out.2.2.1) (rows_apart g2.out.1 g4.out.1 zz.out.2.2.2)).mono ?_
  rintro e w14 ⟨rfl, hb14, hz14⟩
  have b14 : Below w1.heap.size w1 w14 := b12.trans hb14
  have t2 : Hid (w14.ownsRow w1.heap.size 9 1 (.slice o2 l.length k2) l.length (tc l)) := hz14
  clear b12 hb14 hz14 hb712 b7 s1 s2 s3 s4 g1 g2 g3 g4 zz
  obtain ⟨c1, c2, c3⟩ := CC.out w14 b14
  go_wp2_with fail
  refine (H4.out w14 b14).mono ?_
  rintro e w15 ⟨⟨o6, k6, rfl, g6⟩, hb15⟩
  have b15 : Below w1.heap.size w1 w15 := b14.trans (hb15.mono b14.size)
  clear c1 c2 c3
  go_wp2_with fail
  refine (same_got l HL90.out w15 w1.heap.size _ _ (own_low g6.out.1 b14.size) (own_stays t2.out hb15)).mono ?_
  rintro e w16 ⟨rfl, hb16⟩
  have b16 : Hid (Below w.heap.size w w16) := B1.out.trans ((b15.trans (hb16.mono b15.size)).mono B1.out.size)
  clear b14 b15 hb15 hb16 g6 t2
  go_wp2
  go_ret
  exact ⟨rfl, b16.out⟩
end Go.Proofs.YtgncoeihlfcaiaaDoor
