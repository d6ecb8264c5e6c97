import Derived.Test.YtnecnchdffmhbaaDoorO16
import Derived.Test.YtnecnchdffmhbaaDoorO17
import Derived.Test.YtnecnchdffmhbaaDoorO13
import Derived.Test.YtnecnchdffmhbaaDoorO18
import Derived.Test.YtnecnchdffmhbaaDoorO19
import Derived.Test.YtnecnchdffmhbaaDoorO12
namespace Go.Proofs.YtnecnchdffmhbaaDoor
open Go.RowKit Go.Shelf
attribute [local go_sem] Oper.semAt_some

theorem full_grown {W W' : World} {row : Option Nat} {g : Nat} {t : TypeId} {vs : List Value} (f : Full W g t vs) (hg : W.grownBy W' row) (hr : ∀ r, row = some r → ∃ o : Obj, W.heap[r]? = some o ∧ o.isCells = false) : Full W' g t vs := by
  refine (hg.block g f.lt fun e => ?_).trans f
  obtain ⟨o, h1, h2⟩ := hr g e.symm
  have h3 : W.heap[g]? = some (.cells vs.toArray t (0, 0)) := f
  rw [h3] at h1
  rw [← Option.some.inj h1] at h2
  cases h2
theorem own_grown {W W' : World} {row : Option Nat} {b : Nat} {e : TypeId} {sz : Nat} {v : Value} {n : Nat} {xs : List Value} (h : W.ownsRow b e sz v n xs) (hg : W.grownBy W' row) (hr : ∀ r, row = some r → ∃ o : Obj, W.heap[r]? = some o ∧ o.isCells = false) : W'.ownsRow b e sz v n xs :=
  own_same h fun g hgb => hg.block g (own_blk h g hgb).lt fun e => by
    obtain ⟨cur, hv, -⟩ := own_blk h g hgb
    obtain ⟨o, h1, h2⟩ := hr g e.symm
    rw [hv] at h1
    rw [← Option.some.inj h1] at h2
    cases h2
/-- A way's seven cells. -/
def wyC (w : Wy) (nv : Value) : List Value := [.int .i64 w.rc.ph, .int .i64 w.rc.tr, sV w.rc.out, .int .i64 w.rc.inp, nv, .int .i64 (w.len : Int), .bool w.fin]
def wyZ : List Value := [.int .i64 0, .int .i64 0, .string ⟨#[]⟩, .int .i64 0, .slice none 0 0, .int .i64 0, .bool false]
/-- follow's contract. -/
def FollowOf (W : World) (b : ByteArray) : Prop := Calls Tryd.prog 21 #[.string b] W fun e w' => Below W.heap.size W w' ∧ match followS b.data.toList with
  | none => e = .returned (.tuple #[.agg wyZ.toArray, .bool false])
  | some w => ∃ nv, e = .returned (.tuple #[.agg (wyC w nv).toArray, .bool true]) ∧ w'.ownsRow W.heap.size 54 6 nv w.rc.evs.length (w.rc.evs.flatMap ec)
/-- Where follow stands in its loop. -/
structure FlI (W : World) (R : Nat) (w : Wy) (wr : World) : Prop where
  way : ∃ nv, Wyr (R + 1) wr (R + 1) w nv
  res : Full wr R 58 wyZ
  bel : Below W.heap.size W wr
theorem FlI.own {W : World} {R B : Nat} {w : Wy} {a b : World} {row : Option Nat} (h : FlI W R w a) (hg : a.grownBy b row) (hB : W.heap.size ≤ B) (hr : ∀ r, row = some r → B ≤ r ∧ ∃ o : Obj, a.heap[r]? = some o ∧ o.isCells = false) : FlI W R w b := by
  obtain ⟨⟨nv, h1⟩, h2, h3⟩ := h
  exact ⟨⟨nv, h1.low, full_grown h1.box hg fun r e => (hr r e).2, own_grown h1.evs hg fun r e => (hr r e).2⟩, full_grown h2 hg fun r e => (hr r e).2, h3.grown hg h3.size fun k e => Nat.le_trans hB (hr k e).1⟩
theorem FlI.take {W : World} {R : Nat} {w w' : Wy} {a b : World} (h : FlI W R w a) (q : WyQ (R + 1) a (R + 1) w' b) (hR : W.heap.size = R) : FlI W R w' b :=
  ⟨q.out.1, (q.out.2.1.block R (Nat.lt_succ_self R)).trans h.res, h.bel.trans (q.out.2.1.mono (by omega))⟩
/-- The temporaries behind the iterator's making. -/
def flT (R : Nat) (b rest : ByteArray) (u v : Value) : Array Value := #[.string b, undef, .pointer (some ⟨R, 0, none⟩), .bool false, .string rest, .bool true, .pointer (some ⟨R + 1, 0, none⟩), u, .tuple #[.string rest, .bool true], .string b, .tuple #[.string rest, .bool true], .string rest, .bool true, .bool true, .bool false, undef, .agg #[.int .i64 0, .int .i64 0, .string ⟨#[]⟩, .int .i64 0, .slice none 0 0, .int .i64 2, .bool false], .string rest, .func (.func 51) #[] #[.pointer (some ⟨R + 2, 0, none⟩)], v, undef, undef, undef, undef, undef, undef, undef, undef, undef, undef, undef]
theorem cutP_yes {b : List UInt8} (h : b.take 2 = [82, 1]) : cutP b [82, 1] = (b.drop 2, true) := by
  unfold cutP
  rw [if_pos (by exact h)]
  rfl
theorem cutP_no {b : List UInt8} (h : b.take 2 ≠ [82, 1]) : (cutP b [82, 1]).2 = false := by
  unfold cutP
  rw [if_neg (by exact h)]
theorem ret_fol {w : World} {R : Nat} {a b c d e f g : Value} {x : Bool} {tm : Array Value} (h : Full w R 58 [a, b, c, d, e, f, g]) (h2 : tm[2]?.getD undef = .pointer (some ⟨R, 0, none⟩)) (h3 : tm[3]?.getD undef = .bool x) : (results Tryd.f21 tm).run Tryd.prog w = .ok (.tuple #[.agg #[a, b, c, d, e, f, g], .bool x]) w := by
  obtain ⟨⟨⟨⟨r0, g0⟩, ⟨r1, g1⟩, r2, g2⟩, ⟨r3, g3⟩, ⟨r4, g4⟩, r5, g5⟩, r6, g6⟩ := h.seven2
  simp [results, Tryd.results21, go_sem, h2, h3, r0, r1, r2, r3, r4, r5, r6]
set_option maxRecDepth 100000 in
set_option maxHeartbeats 2000000 in
theorem follow_no (W : World) (b : ByteArray) (hb : b.size ≤ 140737488355328) (h2 : b.data.toList.take 2 ≠ [82, 1]) : FollowOf W b := by
  unfold FollowOf followS
  rw [if_neg h2]
  obtain ⟨X1, hX1⟩ : ∃ X, W.alloc (.cells wyZ.toArray 58) = X := ⟨_, rfl⟩
  obtain ⟨R, hR⟩ : ∃ R, W.heap.size = R := ⟨_, rfl⟩
  have b1 : Below W.heap.size W X1 := by rw [← hX1]; exact (Below.refl _ W).alloc (Nat.le_refl _) _
  have f1 : Full X1 R 58 wyZ := by rw [← hX1, ← hR]; exact Full.new W _ _
  have HCu := cut_any X1 b ⟨#[82, 1]⟩ (by omega) (by decide)
  have hc2 := cutP_no h2
  obtain ⟨pr, hpr⟩ : ∃ pr, cutP b.data.toList [82, 1] = pr := ⟨_, rfl⟩
  rw [hpr] at hc2
  obtain ⟨pa, pb⟩ := pr
  simp only at hc2
  subst hc2
  rw [show (⟨#[82, 1]⟩ : ByteArray).data.toList = [82, 1] from rfl, hpr] at HCu
  simp only at HCu
  have H1 : Hid (Below W.heap.size W X1 ∧ Full X1 R 58 wyZ ∧ W.heap.size ≤ R) := ⟨b1, f1, Nat.le_of_eq hR⟩
  obtain ⟨⟨⟨⟨r0, g0⟩, ⟨r1, g1⟩, r2, g2⟩, ⟨r3, g3⟩, ⟨r4, g4⟩, r5, g5⟩, r6, g6⟩ := f1.seven2
  clear b1 f1 hpr hb h2
  simp only [wyZ] at hX1
  unfold sV at HCu
  go_enter Tryd.func21, Tryd.ntmps21
  go_wp2_with fail
  refine HCu.mono ?_
  rintro e w2 ⟨rfl, rfl⟩
  clear HCu
  go_wp2_with fail
  have f2 : Full (w2.setCells R 0 wyZ) R 58 wyZ := Full.put (a := []) (b := wyZ) (d := []) wyZ H1.out.2.1 rfl
  have b2 : Below W.heap.size W (w2.setCells R 0 wyZ) := below_sets H1.out.1 H1.out.2.2 0 _
  simp only [World.setCells, wyZ, Nat.zero_add, Nat.reduceAdd] at f2 b2
  refine bodyPost_ret (ret_fol f2 rfl rfl) rfl ?_
  exact ⟨b2, rfl⟩
set_option maxRecDepth 100000 in
set_option maxHeartbeats 2000000 in
theorem follow_any (hE : AllEv) (W : World) (b : ByteArray) (hT : SumT W) (hb : b.size ≤ 140737488355328) : FollowOf W b := by
  by_cases h2 : b.data.toList.take 2 = [82, 1]
  case neg => exact follow_no W b hb h2
  unfold FollowOf followS
  rw [if_pos h2]
  obtain ⟨rest, hrest⟩ : ∃ x : ByteArray, x.data.toList = b.data.toList.drop 2 := ⟨⟨(b.data.toList.drop 2).toArray⟩, rfl⟩
  obtain ⟨X1, hX1⟩ : ∃ X, W.alloc (.cells wyZ.toArray 58) = X := ⟨_, rfl⟩
  obtain ⟨R, hR⟩ : ∃ R, W.heap.size = R := ⟨_, rfl⟩
  have b1 : Below W.heap.size W X1 := by rw [← hX1]; exact (Below.refl _ W).alloc (Nat.le_refl _) _
  have f1 : Full X1 R 58 wyZ := by rw [← hX1, ← hR]; exact Full.new W _ _
  have z1 : X1.heap.size = R + 1 := by rw [← hX1, World.size_alloc, hR]
  have HCu := cut_any X1 b ⟨#[82, 1]⟩ (by omega) (by decide)
  rw [show (⟨#[82, 1]⟩ : ByteArray).data.toList = [82, 1] from rfl, cutP_yes h2] at HCu
  simp only at HCu
  rw [sV_at hrest] at HCu
  obtain ⟨Xh, hXh⟩ : ∃ X, X1.alloc (.cells #[.int .i64 0, .int .i64 0, .string ⟨#[]⟩, .int .i64 0, .slice none 0 0, .int .i64 2, .bool false] 58) = X := ⟨_, rfl⟩
  have bh : Below X1.heap.size X1 Xh := by rw [← hXh]; exact (Below.refl _ _).alloc (Nat.le_refl _) _
  have fh : Full Xh (R + 1) 58 [.int .i64 0, .int .i64 0, .string ⟨#[]⟩, .int .i64 0, .slice none 0 0, .int .i64 2, .bool false] := by rw [← hXh, ← z1]; exact Full.new X1 _ _
  have zh : Xh.heap.size = R + 2 := by rw [← hXh, World.size_alloc, z1]
  obtain ⟨-, k6, l6⟩ := fh.seven2
  obtain ⟨X2, hX2⟩ : ∃ X, Xh.setCell ⟨R + 1, 6, none⟩ (.bool false) = X := ⟨_, rfl⟩
  have b2 : Below X1.heap.size X1 X2 := by rw [← hX2]; exact bh.setCell (p := ⟨R + 1, 6, none⟩) (by show _ ≤ R + 1; omega) _
  have f2 : Full X2 (R + 1) 58 [.int .i64 0, .int .i64 0, .string ⟨#[]⟩, .int .i64 0, .slice none 0 0, .int .i64 2, .bool false] := by rw [← hX2]; exact Full.put1 (a := [.int .i64 0, .int .i64 0, .string ⟨#[]⟩, .int .i64 0, .slice none 0 0, .int .i64 2]) (d := []) fh _
  have z2 : X2.heap.size = R + 2 := by rw [← hX2]; show (Xh.heap.modify _ _).size = _; rw [Array.size_modify, zh]
  clear fh bh
  have HB := bodies_any rest X2
  rw [z2] at HB
  simp only [wyZ] at hX1
  refine (callsIn_wide (n := 6)).1 ?_
  refine callsIn_of_wp_marks Tryd.func21 rfl trivial ?_ rfl
  simp only [Tryd.ntmps21, List.size_toArray, List.length_cons, List.length_nil, Nat.reduceAdd, Nat.reduceSub, Array.replicate_succ, Array.replicate_zero, List.push_toArray, List.append_toArray, List.nil_append, List.cons_append]
  gi_wp2_with (first | (refine ⟨trivial, ?_⟩; gi_at_call 35; refine (callsIn_wide.2 HCu).mono ?_; rintro e w' ⟨rfl, rfl⟩) | (refine ⟨trivial, ?_⟩; gi_at_call 36; refine (callsIn_wide.2 HB).mono ?_; rintro e w' ⟨rfl, rfl⟩))
  have HT : Hid (SumT W) := hT
  have HH : Hid (rest.data.toList = b.data.toList.drop 2 ∧ b.size ≤ 140737488355328 ∧ W.heap.size = R ∧ b.data.toList.length = b.size) := ⟨hrest, hb, hR, (Lib.size_eq b).symm⟩
  have b3 : Below W.heap.size W (X2.alloc (.cells #[.string rest] 9)) := (b1.trans (b2.mono b1.size)).alloc (by omega) _
  have h0 : FlI W R wy0 (X2.alloc (.cells #[.string rest] 9)) := by
    have nb : Below X2.heap.size X2 (X2.alloc (.cells #[.string rest] 9)) := (Below.refl _ X2).alloc (Nat.le_refl _) _
    exact ⟨⟨.slice none 0 0, Nat.le_refl _, f2.next nb, ⟨rfl, .inl ⟨rfl, rfl⟩⟩⟩, (f1.next b2).next nb, b3⟩
  have hbt : (X2.alloc (.cells #[.string rest] 9)).cell? ⟨R + 2, 0, none⟩ = some (.string rest) := by
    have h := (Full.new X2 #[.string rest] 9).cell 0 (.string rest) rfl
    rw [z2] at h
    exact h.1
  have hzr : rest.size ≤ 140737488355328 := by rw [Lib.size_eq, hrest, List.length_drop, ← Lib.size_eq]; omega
  have hF0 : FoI b.data.toList [] wy0 := FoI.zero h2
  have z3 : (X2.alloc (.cells #[.string rest] 9)).heap.size = R + 3 := by rw [World.size_alloc, z2]
  obtain ⟨X3, hX3⟩ : ∃ X, X2.alloc (.cells #[.string rest] 9) = X := ⟨_, rfl⟩
  rw [hX3] at b3 h0 hbt z3 ⊢
  clear hX3 hX2 hXh hX1 b1 f1 z1 b2 f2 z2 zh HCu HB k6 l6 hT hb hrest hR
  have HRA : Hid (W.heap.size ≤ R + 1) := by have := HH.out.2.2.1; show W.heap.size ≤ R + 1; omega
  obtain ⟨FW, HFW⟩ : ∃ FW, Hid (folW b.data.toList.length wy0 (b.data.toList.drop 2) = FW) := ⟨_, (rfl : folW b.data.toList.length wy0 (b.data.toList.drop 2) = _)⟩
  refine wpIn_range_guard rfl (by omega) (gf := 51) (lb := #[.pointer (some ⟨R + 2, 0, none⟩)]) rfl trivial (enters_of Tryd.func51 (by kernel_rfl) rfl)
    (bodies_seq 5 (by omega) (R + 2) rest X3 hzr (by omega) hbt (HT.out.next b3)) (Below.refl _ _) (fun _ => rfl)
    (fun pre wr => ∃ w, FoI b.data.toList pre w ∧ FlI W R w wr)
    (fun c _ wr => c = Code.exit 0 ∧ FlI W R FW wr)
    (fun s A B' row hs hg hr => by
      obtain ⟨w, k1, k2⟩ := hs
      exact ⟨w, k1, k2.own hg b3.size hr⟩)
    (fun c s A B' row hs hg hr => ⟨hs.1, hs.2.own hg b3.size hr⟩)
    ⟨wy0, hF0, h0⟩
    (fun pre wr hs => by
      obtain ⟨w, k1, k2⟩ := hs
      exact HT.out.next k2.bel)
    (fun _ _ _ _ => trivial)
    (fun x => { tmps := flT R b rest (.string x) (.string x), defers := [] }) ?assign ?body ?done ?stop
  case assign =>
    intro l x Wc K hK
    gi_wp2
    simpa [flT] using hK
  case body =>
    rintro l pre x Wc ⟨w, hF, hL⟩ hnx
    rw [HH.out.1] at hnx
    obtain ⟨hx0, hxl⟩ := first_le hnx
    have hxs := Lib.size_eq x
    have hxz : x.size ≤ 140737488355328 := by rw [List.length_drop, List.length_drop] at hxl; have := HH.out; omega
    have hxp : 0 < x.size := by have := List.length_pos_iff.2 hx0; omega
    obtain ⟨nv, hw⟩ := hL.way
    have HC := take_all hE hw x hxz hxp hF.evs
    have HLh : Hid (FlI W R w Wc) := hL
    have HFh : Hid (FoI b.data.toList pre w) := hF
    have HNx : Hid (firstS ((b.data.toList.drop 2).drop (totB pre)) = some x.data.toList) := hnx
    clear hw hL hF hnx hx0 hxl hxs hxp b3 h0 hbt z3 hF0 hzr h2
    unfold flT
    cases ht : takeS w x.data.toList with
    | none =>
      rw [ht] at HC
      simp only [Option.isSome_none, Option.getD_none] at HC
      have HTk : Hid (takeS w x.data.toList = none) := ht
      clear ht
      gi_wp2_with (refine ⟨trivial, ?_⟩; gi_at_call 37; refine (callsIn_wide.2 HC).mono ?_; rintro e w3 ⟨rfl, hq⟩)
      refine ⟨hq.out.2.2.2, rfl, ?_⟩
      rw [← HFW.out, HFh.out.halt HNx.out HTk.out]
      exact HLh.out.take hq HH.out.2.2.1
    | some w' =>
      rw [ht] at HC
      simp only [Option.isSome_some, Option.getD_some] at HC
      have HTk : Hid (takeS w x.data.toList = some w') := ht
      clear ht
      obtain ⟨kl, -⟩ := takeS_keep HTk.out
      have hwl : w'.len ≤ 140737488355328 := by
        have h1 := HFh.out.len
        have h3 := HH.out
        omega
      have qx : (x.size : Int) ≤ 140737488355328 := by omega
      have qw : (w'.len : Int) ≤ 140737488355328 := by omega
      have qw0 : (0 : Int) ≤ (w'.len : Int) := by omega
      clear kl hwl hxz
      gi_wp2_with (refine ⟨trivial, ?_⟩; gi_at_call 37; refine (callsIn_wide.2 HC).mono ?_; rintro e w3 ⟨rfl, hq⟩; obtain ⟨nv2, hw2⟩ := hq.out.1; obtain ⟨⟨-, -, -, c5, f5⟩, -⟩ := hw2.box.seven2)
      have hk := HLh.out.take hq HH.out.2.2.1
      have ef : (w'.len : Int) + (8 + (x.size : Int)) = ((w'.len + (8 + x.size) : Nat) : Int) := by omega
      refine ⟨hq.out.2.2.2.trans (KeepsOthers.setCell _ _ _), ⟨w'.rc, w'.len + (8 + x.size), w'.fin⟩, HFh.out.go HNx.out HTk.out, ⟨nv2, Nat.le_refl _, ?_, own_oth hw2.evs hw2.box (by decide) 5 _⟩, hk.res.other1 (Nat.ne_of_lt (Nat.lt_succ_self R)), hk.bel.setCell (p := ⟨R + 1, 5, none⟩) HRA.out _⟩
      rw [ef]
      exact Full.put1 (a := [.int .i64 w'.rc.ph, .int .i64 w'.rc.tr, sV w'.rc.out, .int .i64 w'.rc.inp, nv2]) (d := [.bool w'.fin]) hw2.box _
  case done =>
    rintro D xs Wd hD hS ⟨w, hF, hL⟩ hK
    rw [HH.out.1] at hS
    rw [← hF.end_ hS, HFW.out] at hL
    clear hS hF
    obtain ⟨nv', hw⟩ := hL.way
    obtain ⟨qe, ce, rfl, -, -⟩ := own_slice hw.evs
    obtain ⟨ne, hne⟩ : ∃ ne, FW.rc.evs.length = ne := ⟨_, rfl⟩
    have HNE : Hid (FW.rc.evs.length = ne) := hne
    rw [hne] at hw
    clear hne
    obtain ⟨⟨⟨⟨r0, g0⟩, ⟨r1, g1⟩, r2, g2⟩, ⟨r3, g3⟩, ⟨r4, g4⟩, r5, g5⟩, r6, g6⟩ := hL.res.seven2
    obtain ⟨⟨⟨⟨c0, -⟩, ⟨c1, -⟩, c2, -⟩, ⟨c3, -⟩, ⟨c4, -⟩, c5, -⟩, c6, -⟩ := hw.box.seven2
    have HLh : Hid (FlI W R FW Wd) := hL
    have HW : Hid (Wyr (R + 1) Wd (R + 1) FW (.slice qe ne ce)) := hw
    have HD : Hid (W.heap.size ≤ D ∧ Wd.heap[D]? = some (.deferred (some []))) := ⟨Nat.le_trans b3.size hD, hK⟩
    clear hw hL hD hK b3 h0 hbt z3 hF0 hzr h2
    unfold sV at c2
    gi_wp2
    have f9 : Full (Wd.setCells R 0 (wyC FW (.slice qe ne ce))) R 58 (wyC FW (.slice qe ne ce)) := Full.put (a := []) (b := wyZ) (d := []) (wyC FW (.slice qe ne ce)) HLh.out.res rfl
    have b9 : Below W.heap.size W (Wd.setCells R 0 (wyC FW (.slice qe ne ce))) := below_sets HLh.out.bel (Nat.le_of_eq HH.out.2.2.1) 0 _
    have k9 : (Wd.setCells R 0 (wyC FW (.slice qe ne ce))).heap[D]? = some (.deferred (some [])) := (keeps_sets _ Wd R 0).same D _ HD.out.2 rfl
    have o9 : (Wd.setCells R 0 (wyC FW (.slice qe ne ce))).ownsRow (R + 1) 54 6 (.slice qe ne ce) FW.rc.evs.length (FW.rc.evs.flatMap ec) := own_same HW.out.evs fun g hg => sets_heap (fun e => (own_blk HW.out.evs g hg).ne (⟨_, HLh.out.res, Nat.zero_le _⟩ : Blk Wd R 58 0) (by decide) e) _ 0 Wd
    have HO : Hid (Full (Wd.setCells R 0 (wyC FW (.slice qe ne ce))) R 58 (wyC FW (.slice qe ne ce)) ∧ Below W.heap.size W (Wd.setCells R 0 (wyC FW (.slice qe ne ce))) ∧ (Wd.setCells R 0 (wyC FW (.slice qe ne ce))).heap[D]? = some (.deferred (some [])) ∧ (Wd.setCells R 0 (wyC FW (.slice qe ne ce))).ownsRow (R + 1) 54 6 (.slice qe ne ce) FW.rc.evs.length (FW.rc.evs.flatMap ec)) := ⟨f9, b9, k9, o9⟩
    clear f9 b9 k9 o9
    obtain ⟨Z, hZ⟩ : ∃ Z, Wd.setCells R 0 (wyC FW (.slice qe ne ce)) = Z := ⟨_, rfl⟩
    rw [hZ] at HO
    simp only [World.setCells, wyC, sV, Nat.zero_add, Nat.reduceAdd] at hZ
    rw [hZ]
    refine ⟨by simp, .inl ⟨_, _, rfl, run_takeDeferred HO.out.2.2.1, ?_⟩⟩
    have gr := grownBy_putObj' Z D (.deferred none)
    have hr : ∀ r, some D = some r → ∃ o : Obj, Z.heap[r]? = some o ∧ o.isCells = false := fun r e => by cases e; exact ⟨_, HO.out.2.2.1, rfl⟩
    simp only [HFW.out]
    exact ⟨_, ret_fol (full_grown HO.out.1 gr hr) rfl rfl, HO.out.2.1.grown gr HO.out.2.1.size (fun k e => by cases e; exact HD.out.1), .slice qe ne ce, rfl, own_down (own_grown HO.out.2.2.2 gr hr) HRA.out⟩
  case stop =>
    rintro D c pre Wd hD ⟨rfl, hL⟩ hK
    obtain ⟨nv', hw⟩ := hL.way
    obtain ⟨qe, ce, rfl, -, -⟩ := own_slice hw.evs
    obtain ⟨ne, hne⟩ : ∃ ne, FW.rc.evs.length = ne := ⟨_, rfl⟩
    have HNE : Hid (FW.rc.evs.length = ne) := hne
    rw [hne] at hw
    clear hne
    obtain ⟨⟨⟨⟨r0, g0⟩, ⟨r1, g1⟩, r2, g2⟩, ⟨r3, g3⟩, ⟨r4, g4⟩, r5, g5⟩, r6, g6⟩ := hL.res.seven2
    obtain ⟨⟨⟨⟨c0, -⟩, ⟨c1, -⟩, c2, -⟩, ⟨c3, -⟩, ⟨c4, -⟩, c5, -⟩, c6, -⟩ := hw.box.seven2
    have HLh : Hid (FlI W R FW Wd) := hL
    have HW : Hid (Wyr (R + 1) Wd (R + 1) FW (.slice qe ne ce)) := hw
    have HD : Hid (W.heap.size ≤ D ∧ Wd.heap[D]? = some (.deferred (some []))) := ⟨Nat.le_trans b3.size hD, hK⟩
    clear hw hL hD hK b3 h0 hbt z3 hF0 hzr h2
    unfold sV at c2
    gi_wp2
    have f9 : Full (Wd.setCells R 0 (wyC FW (.slice qe ne ce))) R 58 (wyC FW (.slice qe ne ce)) := Full.put (a := []) (b := wyZ) (d := []) (wyC FW (.slice qe ne ce)) HLh.out.res rfl
    have b9 : Below W.heap.size W (Wd.setCells R 0 (wyC FW (.slice qe ne ce))) := below_sets HLh.out.bel (Nat.le_of_eq HH.out.2.2.1) 0 _
    have k9 : (Wd.setCells R 0 (wyC FW (.slice qe ne ce))).heap[D]? = some (.deferred (some [])) := (keeps_sets _ Wd R 0).same D _ HD.out.2 rfl
    have o9 : (Wd.setCells R 0 (wyC FW (.slice qe ne ce))).ownsRow (R + 1) 54 6 (.slice qe ne ce) FW.rc.evs.length (FW.rc.evs.flatMap ec) := own_same HW.out.evs fun g hg => sets_heap (fun e => (own_blk HW.out.evs g hg).ne (⟨_, HLh.out.res, Nat.zero_le _⟩ : Blk Wd R 58 0) (by decide) e) _ 0 Wd
    have HO : Hid (Full (Wd.setCells R 0 (wyC FW (.slice qe ne ce))) R 58 (wyC FW (.slice qe ne ce)) ∧ Below W.heap.size W (Wd.setCells R 0 (wyC FW (.slice qe ne ce))) ∧ (Wd.setCells R 0 (wyC FW (.slice qe ne ce))).heap[D]? = some (.deferred (some [])) ∧ (Wd.setCells R 0 (wyC FW (.slice qe ne ce))).ownsRow (R + 1) 54 6 (.slice qe ne ce) FW.rc.evs.length (FW.rc.evs.flatMap ec)) := ⟨f9, b9, k9, o9⟩
    clear f9 b9 k9 o9
    obtain ⟨Z, hZ⟩ : ∃ Z, Wd.setCells R 0 (wyC FW (.slice qe ne ce)) = Z := ⟨_, rfl⟩
    rw [hZ] at HO
    simp only [World.setCells, wyC, sV, Nat.zero_add, Nat.reduceAdd] at hZ
    rw [hZ]
    refine ⟨by simp, .inl ⟨_, _, rfl, run_takeDeferred HO.out.2.2.1, ?_⟩⟩
    have gr := grownBy_putObj' Z D (.deferred none)
    have hr : ∀ r, some D = some r → ∃ o : Obj, Z.heap[r]? = some o ∧ o.isCells = false := fun r e => by cases e; exact ⟨_, HO.out.2.2.1, rfl⟩
    simp only [HFW.out]
    exact ⟨_, ret_fol (full_grown HO.out.1 gr hr) rfl rfl, HO.out.2.1.grown gr HO.out.2.1.size (fun k e => by cases e; exact HD.out.1), .slice qe ne ce, rfl, own_down (own_grown HO.out.2.2.2 gr hr) HRA.out⟩
end Go.Proofs.YtnecnchdffmhbaaDoor

namespace Go.Proofs.YtnecnchdffmhbaaDoor
open Go.RowKit

theorem all_ev : AllEv := fun _ _ _ _ h hz hns hnd => revent h hz hns hnd
/-- A record that is answered: its row of events is its own. -/
def RcA (B : Nat) (w : World) (rc : Rc) (v : Value) : Prop := ∃ nv, v = .agg #[.int .i64 rc.ph, .int .i64 rc.tr, sV rc.out, .int .i64 rc.inp, nv] ∧ w.ownsRow B 54 6 nv rc.evs.length (rc.evs.flatMap ec)
theorem RcA.next {B : Nat} {w w' : World} {rc : Rc} {v : Value} (h : RcA B w rc v) (k : Below w.heap.size w w') : RcA B w' rc v := by
  obtain ⟨nv, h1, h2⟩ := h
  exact ⟨nv, h1, own_next h2 k⟩
theorem RcA.down {B C : Nat} {w : World} {rc : Rc} {v : Value} (h : RcA B w rc v) (k : C ≤ B) : RcA C w rc v := by
  obtain ⟨nv, h1, h2⟩ := h
  exact ⟨nv, h1, own_down h2 k⟩
theorem RcA.zero (B : Nat) (w : World) : RcA B w rc0 (.agg #[.int .i64 0, .int .i64 0, .string ⟨#[]⟩, .int .i64 0, .slice none 0 0]) := ⟨_, rfl, ⟨rfl, .inl ⟨rfl, rfl⟩⟩⟩
def rcZ : List Value := [.int .i64 0, .int .i64 0, .string ⟨#[]⟩, .int .i64 0, .slice none 0 0]
theorem ret_dec {w : World} {R : Nat} {a b c d e : Value} {x : Int} {tm : Array Value} (h : Full w R 28 [a, b, c, d, e]) (h2 : tm[2]?.getD undef = .pointer (some ⟨R, 0, none⟩)) (h3 : tm[3]?.getD undef = .int .i64 x) : (results Tryd.f9 tm).run Tryd.prog w = .ok (.tuple #[.agg #[a, b, c, d, e], .int .i64 x]) w := by
  obtain ⟨⟨⟨r0, g0⟩, ⟨r1, g1⟩, r2, g2⟩, ⟨r3, g3⟩, r4, g4⟩ := h.five2
  simp [results, Tryd.results9, go_sem, h2, h3, r0, r1, r2, r3, r4]
set_option maxRecDepth 100000 in
set_option maxHeartbeats 2000000 in
theorem decode_any (W : World) (b : ByteArray) (hT : SumT W) (hb : b.size ≤ 140737488355328) :
    Calls Tryd.prog 9 #[.string b] W fun e w' => (∃ v, e = .returned (.tuple #[v, .int .i64 (decS b.data.toList).2]) ∧ RcA W.heap.size w' (decS b.data.toList).1 v) ∧ Below W.heap.size W w' := by
  obtain ⟨X1, hX1⟩ : ∃ X, W.alloc (.cells rcZ.toArray 28) = X := ⟨_, rfl⟩
  obtain ⟨R, hR⟩ : ∃ R, W.heap.size = R := ⟨_, rfl⟩
  have b1 : Below W.heap.size W X1 := by rw [← hX1]; exact (Below.refl _ W).alloc (Nat.le_refl _) _
  have f1 : Full X1 R 28 rcZ := by rw [← hX1, ← hR]; exact Full.new W _ _
  have HC := follow_any all_ev X1 b (hT.next b1) hb
  unfold FollowOf at HC
  have H1 : Hid (Below W.heap.size W X1 ∧ Full X1 R 28 rcZ ∧ W.heap.size = R ∧ b.data.toList.length = b.size) := ⟨b1, f1, hR, (Lib.size_eq b).symm⟩
  have hbz : (b.size : Int) ≤ 140737488355328 := by omega
  simp only [rcZ] at hX1
  cases hf : followS b.data.toList with
  | none =>
    rw [hf] at HC
    simp only [wyZ] at HC
    have HV : Hid (decS b.data.toList = (rc0, 250)) := by show decS _ = _; unfold decS; rw [hf]
    clear hf b1 f1 hT hb
    go_enter Tryd.func9, Tryd.ntmps9
    go_wp2_with fail
    refine HC.mono ?_
    rintro e w2 ⟨hb2, rfl⟩
    have f2 := H1.out.2.1.next hb2
    have b2 : Below W.heap.size W w2 := H1.out.1.trans (hb2.mono H1.out.1.size)
    have nb : Below w2.heap.size w2 (w2.alloc (.cells #[.int .i64 0, .int .i64 0, .string ⟨#[]⟩, .int .i64 0, .slice none 0 0, .int .i64 0, .bool false] 58)) := (Below.refl _ w2).alloc (Nat.le_refl _) _
    have f3 := f2.next nb
    have H3 : Hid (Full (w2.alloc (.cells #[.int .i64 0, .int .i64 0, .string ⟨#[]⟩, .int .i64 0, .slice none 0 0, .int .i64 0, .bool false] 58)) R 28 rcZ ∧ Below W.heap.size W (w2.alloc (.cells #[.int .i64 0, .int .i64 0, .string ⟨#[]⟩, .int .i64 0, .slice none 0 0, .int .i64 0, .bool false] 58))) := ⟨f3, b2.trans (nb.mono b2.size)⟩
    obtain ⟨⟨⟨r0, g0⟩, ⟨r1, g1⟩, r2, g2⟩, ⟨r3, g3⟩, r4, g4⟩ := f3.five2
    clear HC hb2 f2 b2 nb f3 hX1
    go_wp2_with fail
    generalize w2.alloc (.cells #[.int .i64 0, .int .i64 0, .string ⟨#[]⟩, .int .i64 0, .slice none 0 0, .int .i64 0, .bool false] 58) = X3 at H3 ⊢
    have f4 : Full (X3.setCells R 0 rcZ) R 28 rcZ := Full.put (a := []) (b := rcZ) (d := []) rcZ H3.out.1 rfl
    have b4 : Below W.heap.size W (X3.setCells R 0 rcZ) := below_sets H3.out.2 (Nat.le_of_eq H1.out.2.2.1) 0 _
    simp only [World.setCells, rcZ, Nat.zero_add, Nat.reduceAdd] at f4 b4
    refine bodyPost_ret (ret_dec f4 rfl rfl) rfl ?_
    rw [HV.out]
    exact ⟨⟨_, rfl, RcA.zero _ _⟩, b4⟩
  | some w =>
    rw [hf] at HC
    have HV : Hid (decS b.data.toList = if w.fin = true ∧ b.size ≤ w.len then (w.rc, 0) else (rc0, 250)) := by show decS _ = _; unfold decS; rw [hf, ← Lib.size_eq]
    clear hf b1 f1 hT hb
    go_enter Tryd.func9, Tryd.ntmps9
    go_wp2_with fail
    refine HC.mono ?_
    rintro e w2 ⟨hb2, nv, rfl, ho⟩
    obtain ⟨qe, ce, rfl, -, -⟩ := own_slice ho
    obtain ⟨ne, hne⟩ : ∃ ne, w.rc.evs.length = ne := ⟨_, rfl⟩
    rw [hne] at ho ⊢
    obtain ⟨rc, ln, fin⟩ := w
    simp only [wyC, sV] at hne ho HV ⊢
    have nb : Below w2.heap.size w2 (w2.alloc (.cells #[.int .i64 rc.ph, .int .i64 rc.tr, .string ⟨rc.out.toArray⟩, .int .i64 rc.inp, .slice qe ne ce, .int .i64 (ln : Int), .bool fin] 58)) := (Below.refl _ w2).alloc (Nat.le_refl _) _
    have f2 := (H1.out.2.1.next hb2).next nb
    have fD := Full.new w2 #[.int .i64 rc.ph, .int .i64 rc.tr, .string ⟨rc.out.toArray⟩, .int .i64 rc.inp, .slice qe ne ce, .int .i64 (ln : Int), .bool fin] 58
    have HN : Hid (rc.evs.length = ne) := hne
    have o3 := own_next ho nb
    have b2 : Below W.heap.size W w2 := H1.out.1.trans (hb2.mono H1.out.1.size)
    have H3 : Hid (Full (w2.alloc (.cells #[.int .i64 rc.ph, .int .i64 rc.tr, .string ⟨rc.out.toArray⟩, .int .i64 rc.inp, .slice qe ne ce, .int .i64 (ln : Int), .bool fin] 58)) R 28 rcZ ∧ Below W.heap.size W (w2.alloc (.cells #[.int .i64 rc.ph, .int .i64 rc.tr, .string ⟨rc.out.toArray⟩, .int .i64 rc.inp, .slice qe ne ce, .int .i64 (ln : Int), .bool fin] 58)) ∧ (w2.alloc (.cells #[.int .i64 rc.ph, .int .i64 rc.tr, .string ⟨rc.out.toArray⟩, .int .i64 rc.inp, .slice qe ne ce, .int .i64 (ln : Int), .bool fin] 58)).ownsRow X1.heap.size 54 6 (.slice qe ne ce) ne (rc.evs.flatMap ec)) := ⟨f2, b2.trans (nb.mono b2.size), o3⟩
    obtain ⟨⟨⟨r0, g0⟩, ⟨r1, g1⟩, r2, g2⟩, ⟨r3, g3⟩, r4, g4⟩ := f2.five2
    obtain ⟨⟨⟨⟨c0, -⟩, ⟨c1, -⟩, c2, -⟩, ⟨c3, -⟩, ⟨c4, -⟩, c5, -⟩, c6, -⟩ := fD.seven2
    clear HC hb2 f2 b2 nb fD hX1 o3 ho hne
    have q0 : (0 : Int) ≤ (ln : Int) := by omega
    cases fin with
    | false =>
      have HW : Hid (decS b.data.toList = (rc0, 250)) := by show decS _ = _; rw [HV.out, if_neg (fun h => Bool.false_ne_true h.1)]
      go_wp2_with fail
      generalize (w2.alloc (.cells #[.int .i64 rc.ph, .int .i64 rc.tr, .string ⟨rc.out.toArray⟩, .int .i64 rc.inp, .slice qe ne ce, .int .i64 (ln : Int), .bool false] 58)) = X3 at H3 ⊢
      have f4 : Full (X3.setCells R 0 rcZ) R 28 rcZ := Full.put (a := []) (b := rcZ) (d := []) rcZ H3.out.1 rfl
      have b4 : Below W.heap.size W (X3.setCells R 0 rcZ) := below_sets H3.out.2.1 (Nat.le_of_eq H1.out.2.2.1) 0 _
      simp only [World.setCells, rcZ, Nat.zero_add, Nat.reduceAdd] at f4 b4
      refine bodyPost_ret (ret_dec f4 rfl rfl) rfl ?_
      rw [HW.out]
      simp only [H1.out.2.2.1] at b4 ⊢
      exact ⟨⟨_, rfl, RcA.zero _ _⟩, b4⟩
    | true =>
      by_cases hl : b.size ≤ ln
      case neg =>
        have ql : (ln : Int) < (b.size : Int) := by omega
        have HW : Hid (decS b.data.toList = (rc0, 250)) := by show decS _ = _; rw [HV.out, if_neg (fun h => hl h.2)]
        go_wp2_with fail
        generalize (w2.alloc (.cells #[.int .i64 rc.ph, .int .i64 rc.tr, .string ⟨rc.out.toArray⟩, .int .i64 rc.inp, .slice qe ne ce, .int .i64 (ln : Int), .bool true] 58)) = X3 at H3 ⊢
        have f4 : Full (X3.setCells R 0 rcZ) R 28 rcZ := Full.put (a := []) (b := rcZ) (d := []) rcZ H3.out.1 rfl
        have b4 : Below W.heap.size W (X3.setCells R 0 rcZ) := below_sets H3.out.2.1 (Nat.le_of_eq H1.out.2.2.1) 0 _
        simp only [World.setCells, rcZ, Nat.zero_add, Nat.reduceAdd] at f4 b4
        refine bodyPost_ret (ret_dec f4 rfl rfl) rfl ?_
        rw [HW.out]
        simp only [H1.out.2.2.1] at b4 ⊢
        exact ⟨⟨_, rfl, RcA.zero _ _⟩, b4⟩
      case pos =>
        have ql : (b.size : Int) ≤ (ln : Int) := by omega
        have HW : Hid (decS b.data.toList = (rc, 0)) := by show decS _ = _; rw [HV.out, if_pos ⟨rfl, hl⟩]
        clear hl
        go_wp2_with fail
        generalize (w2.alloc (.cells #[.int .i64 rc.ph, .int .i64 rc.tr, .string ⟨rc.out.toArray⟩, .int .i64 rc.inp, .slice qe ne ce, .int .i64 (ln : Int), .bool true] 58)) = X3 at H3 ⊢
        have f4 : Full (X3.setCells R 0 [.int .i64 rc.ph, .int .i64 rc.tr, .string ⟨rc.out.toArray⟩, .int .i64 rc.inp, .slice qe ne ce]) R 28 [.int .i64 rc.ph, .int .i64 rc.tr, .string ⟨rc.out.toArray⟩, .int .i64 rc.inp, .slice qe ne ce] := Full.put (a := []) (b := rcZ) (d := []) [.int .i64 rc.ph, .int .i64 rc.tr, .string ⟨rc.out.toArray⟩, .int .i64 rc.inp, .slice qe ne ce] H3.out.1 rfl
        have b4 : Below W.heap.size W (X3.setCells R 0 [.int .i64 rc.ph, .int .i64 rc.tr, .string ⟨rc.out.toArray⟩, .int .i64 rc.inp, .slice qe ne ce]) := below_sets H3.out.2.1 (Nat.le_of_eq H1.out.2.2.1) 0 _
        have o4 : (X3.setCells R 0 [.int .i64 rc.ph, .int .i64 rc.tr, .string ⟨rc.out.toArray⟩, .int .i64 rc.inp, .slice qe ne ce]).ownsRow W.heap.size 54 6 (.slice qe ne ce) ne (rc.evs.flatMap ec) := own_down (own_same H3.out.2.2 fun g hg => sets_heap (fun e => (own_blk H3.out.2.2 g hg).ne (⟨_, H3.out.1, Nat.zero_le _⟩ : Blk X3 R 28 0) (by decide) e) _ 0 X3) H1.out.1.size
        simp only [World.setCells, Nat.zero_add, Nat.reduceAdd] at f4 b4 o4
        refine bodyPost_ret (ret_dec f4 rfl rfl) rfl ?_
        rw [HW.out]
        simp only [H1.out.2.2.1] at b4 o4 ⊢
        exact ⟨⟨_, rfl, .slice qe ne ce, rfl, by rw [HN.out]; exact o4⟩, b4⟩
end Go.Proofs.YtnecnchdffmhbaaDoor

namespace Go.Proofs.YtnecnchdffmhbaaDoor
open Go.RowKit

theorem ret_sal {w : World} {R : Nat} {a b c d e : Value} {n x : Int} {tm : Array Value} (h : Full w R 28 [a, b, c, d, e]) (h2 : tm[2]?.getD undef = .pointer (some ⟨R, 0, none⟩)) (h3 : tm[3]?.getD undef = .int .i64 n) (h4 : tm[4]?.getD undef = .int .i64 x) : (results Tryd.f11 tm).run Tryd.prog w = .ok (.tuple #[.agg #[a, b, c, d, e], .int .i64 n, .int .i64 x]) w := by
  obtain ⟨⟨⟨r0, g0⟩, ⟨r1, g1⟩, r2, g2⟩, ⟨r3, g3⟩, r4, g4⟩ := h.five2
  simp [results, Tryd.results11, go_sem, h2, h3, h4, r0, r1, r2, r3, r4]
set_option maxRecDepth 100000 in
set_option maxHeartbeats 2000000 in
theorem salvage_any (W : World) (b : ByteArray) (hT : SumT W) (hb : b.size ≤ 140737488355328) :
    Calls Tryd.prog 11 #[.string b] W fun e w' => (∃ v, e = .returned (.tuple #[v, .int .i64 ((salS b.data.toList).2.1 : Int), .int .i64 (salS b.data.toList).2.2]) ∧ RcA W.heap.size w' (salS b.data.toList).1 v) ∧ Below W.heap.size W w' := by
  obtain ⟨X1, hX1⟩ : ∃ X, W.alloc (.cells rcZ.toArray 28) = X := ⟨_, rfl⟩
  obtain ⟨R, hR⟩ : ∃ R, W.heap.size = R := ⟨_, rfl⟩
  have b1 : Below W.heap.size W X1 := by rw [← hX1]; exact (Below.refl _ W).alloc (Nat.le_refl _) _
  have f1 : Full X1 R 28 rcZ := by rw [← hX1, ← hR]; exact Full.new W _ _
  have HC := follow_any all_ev X1 b (hT.next b1) hb
  unfold FollowOf at HC
  have H1 : Hid (Below W.heap.size W X1 ∧ Full X1 R 28 rcZ ∧ W.heap.size = R ∧ b.data.toList.length = b.size) := ⟨b1, f1, hR, (Lib.size_eq b).symm⟩
  simp only [rcZ] at hX1
  cases hf : followS b.data.toList with
  | none =>
    rw [hf] at HC
    simp only [wyZ] at HC
    have HV : Hid (salS b.data.toList = (rc0, 0, 250)) := by show salS _ = _; unfold salS; rw [hf]
    clear hf b1 f1 hT hb
    go_enter Tryd.func11, Tryd.ntmps11
    go_wp2_with fail
    refine HC.mono ?_
    rintro e w2 ⟨hb2, rfl⟩
    have f2 := H1.out.2.1.next hb2
    have b2 : Below W.heap.size W w2 := H1.out.1.trans (hb2.mono H1.out.1.size)
    have nb : Below w2.heap.size w2 (w2.alloc (.cells #[.int .i64 0, .int .i64 0, .string ⟨#[]⟩, .int .i64 0, .slice none 0 0, .int .i64 0, .bool false] 58)) := (Below.refl _ w2).alloc (Nat.le_refl _) _
    have f3 := f2.next nb
    have H3 : Hid (Full (w2.alloc (.cells #[.int .i64 0, .int .i64 0, .string ⟨#[]⟩, .int .i64 0, .slice none 0 0, .int .i64 0, .bool false] 58)) R 28 rcZ ∧ Below W.heap.size W (w2.alloc (.cells #[.int .i64 0, .int .i64 0, .string ⟨#[]⟩, .int .i64 0, .slice none 0 0, .int .i64 0, .bool false] 58))) := ⟨f3, b2.trans (nb.mono b2.size)⟩
    obtain ⟨⟨⟨r0, g0⟩, ⟨r1, g1⟩, r2, g2⟩, ⟨r3, g3⟩, r4, g4⟩ := f3.five2
    clear HC hb2 f2 b2 nb f3 hX1
    go_wp2_with fail
    generalize w2.alloc (.cells #[.int .i64 0, .int .i64 0, .string ⟨#[]⟩, .int .i64 0, .slice none 0 0, .int .i64 0, .bool false] 58) = X3 at H3 ⊢
    have f4 : Full (X3.setCells R 0 rcZ) R 28 rcZ := Full.put (a := []) (b := rcZ) (d := []) rcZ H3.out.1 rfl
    have b4 : Below W.heap.size W (X3.setCells R 0 rcZ) := below_sets H3.out.2 (Nat.le_of_eq H1.out.2.2.1) 0 _
    simp only [World.setCells, rcZ, Nat.zero_add, Nat.reduceAdd] at f4 b4
    refine bodyPost_ret (ret_sal f4 rfl rfl rfl) rfl ?_
    rw [HV.out]
    exact ⟨⟨_, rfl, RcA.zero _ _⟩, b4⟩
  | some w =>
    rw [hf] at HC
    have HV : Hid (salS b.data.toList = (w.rc, w.len, 0)) := by show salS _ = _; unfold salS; rw [hf]
    clear hf b1 f1 hT hb
    go_enter Tryd.func11, Tryd.ntmps11
    go_wp2_with fail
    refine HC.mono ?_
    rintro e w2 ⟨hb2, nv, rfl, ho⟩
    obtain ⟨qe, ce, rfl, -, -⟩ := own_slice ho
    obtain ⟨ne, hne⟩ : ∃ ne, w.rc.evs.length = ne := ⟨_, rfl⟩
    rw [hne] at ho ⊢
    obtain ⟨rc, ln, fin⟩ := w
    simp only [wyC, sV] at hne ho HV ⊢
    have nb : Below w2.heap.size w2 (w2.alloc (.cells #[.int .i64 rc.ph, .int .i64 rc.tr, .string ⟨rc.out.toArray⟩, .int .i64 rc.inp, .slice qe ne ce, .int .i64 (ln : Int), .bool fin] 58)) := (Below.refl _ w2).alloc (Nat.le_refl _) _
    have HLt : Hid (R < w2.heap.size) := (H1.out.2.1.next hb2).lt
    have f2 := (H1.out.2.1.next hb2).next nb
    have fD := Full.new w2 #[.int .i64 rc.ph, .int .i64 rc.tr, .string ⟨rc.out.toArray⟩, .int .i64 rc.inp, .slice qe ne ce, .int .i64 (ln : Int), .bool fin] 58
    have HN : Hid (rc.evs.length = ne) := hne
    have o3 := own_next ho nb
    have b2 : Below W.heap.size W w2 := H1.out.1.trans (hb2.mono H1.out.1.size)
    have H3 : Hid (Full (w2.alloc (.cells #[.int .i64 rc.ph, .int .i64 rc.tr, .string ⟨rc.out.toArray⟩, .int .i64 rc.inp, .slice qe ne ce, .int .i64 (ln : Int), .bool fin] 58)) R 28 rcZ ∧ Below W.heap.size W (w2.alloc (.cells #[.int .i64 rc.ph, .int .i64 rc.tr, .string ⟨rc.out.toArray⟩, .int .i64 rc.inp, .slice qe ne ce, .int .i64 (ln : Int), .bool fin] 58)) ∧ (w2.alloc (.cells #[.int .i64 rc.ph, .int .i64 rc.tr, .string ⟨rc.out.toArray⟩, .int .i64 rc.inp, .slice qe ne ce, .int .i64 (ln : Int), .bool fin] 58)).ownsRow X1.heap.size 54 6 (.slice qe ne ce) ne (rc.evs.flatMap ec)) := ⟨f2, b2.trans (nb.mono b2.size), o3⟩
    obtain ⟨⟨⟨r0, g0⟩, ⟨r1, g1⟩, r2, g2⟩, ⟨r3, g3⟩, r4, g4⟩ := f2.five2
    obtain ⟨⟨⟨⟨c0, -⟩, ⟨c1, -⟩, c2, -⟩, ⟨c3, -⟩, ⟨c4, -⟩, c5, -⟩, c6, -⟩ := fD.seven2
    clear HC hb2 f2 b2 nb fD hX1 o3 ho hne
    go_upto_region 4 with fail
    obtain ⟨D, hD⟩ : ∃ D, w2.heap.size = D := ⟨_, rfl⟩
    have HDR : Hid (D ≠ R) := by have := HLt.out; show D ≠ R; omega
    clear HLt
    rw [hD] at c0 c1 c2 c3 c4 c5 c6 ⊢
    generalize w2.alloc (.cells #[.int .i64 rc.ph, .int .i64 rc.tr, .string ⟨rc.out.toArray⟩, .int .i64 rc.inp, .slice qe ne ce, .int .i64 (ln : Int), .bool fin] 58) = X3 at *
    clear hD c6
    have f4 : Full (X3.setCells R 0 [.int .i64 rc.ph, .int .i64 rc.tr, .string ⟨rc.out.toArray⟩, .int .i64 rc.inp, .slice qe ne ce]) R 28 [.int .i64 rc.ph, .int .i64 rc.tr, .string ⟨rc.out.toArray⟩, .int .i64 rc.inp, .slice qe ne ce] := Full.put (a := []) (b := rcZ) (d := []) [.int .i64 rc.ph, .int .i64 rc.tr, .string ⟨rc.out.toArray⟩, .int .i64 rc.inp, .slice qe ne ce] H3.out.1 rfl
    have b4 : Below W.heap.size W (X3.setCells R 0 [.int .i64 rc.ph, .int .i64 rc.tr, .string ⟨rc.out.toArray⟩, .int .i64 rc.inp, .slice qe ne ce]) := below_sets H3.out.2.1 (Nat.le_of_eq H1.out.2.2.1) 0 _
    have o4 : (X3.setCells R 0 [.int .i64 rc.ph, .int .i64 rc.tr, .string ⟨rc.out.toArray⟩, .int .i64 rc.inp, .slice qe ne ce]).ownsRow W.heap.size 54 6 (.slice qe ne ce) ne (rc.evs.flatMap ec) := own_down (own_same H3.out.2.2 fun g hg => sets_heap (fun e => (own_blk H3.out.2.2 g hg).ne (⟨_, H3.out.1, Nat.zero_le _⟩ : Blk X3 R 28 0) (by decide) e) _ 0 X3) H1.out.1.size
    obtain ⟨Z, hZ⟩ : ∃ Z, X3.setCells R 0 [.int .i64 rc.ph, .int .i64 rc.tr, .string ⟨rc.out.toArray⟩, .int .i64 rc.inp, .slice qe ne ce] = Z := ⟨_, rfl⟩
    rw [hZ] at f4 b4 o4
    have nz : Below Z.heap.size Z Z.drew := (Below.refl _ Z).drew
    have H4 : Hid (Full Z.drew R 28 [.int .i64 rc.ph, .int .i64 rc.tr, .string ⟨rc.out.toArray⟩, .int .i64 rc.inp, .slice qe ne ce] ∧ Below W.heap.size W Z.drew ∧ Z.drew.ownsRow W.heap.size 54 6 (.slice qe ne ce) ne (rc.evs.flatMap ec)) := ⟨f4.next nz, b4.trans (nz.mono b4.size), own_next o4 nz⟩
    have z5 : Z.cell? ⟨D, 5, none⟩ = some (.int .i64 (ln : Int)) := by rw [← hZ]; exact (World.cell?_of_block (w := X3) (a := ⟨D, 5, none⟩) (sets_heap HDR.out _ 0 X3)).trans c5
    have z5d : Z.drew.cell? ⟨D, 5, none⟩ = some (.int .i64 (ln : Int)) := z5
    clear f4 b4 o4 H3 nz
    simp only [World.setCells, Nat.zero_add, Nat.reduceAdd] at hZ
    go_region_law (first | fail)
    all_goals
      clear c0 c1 c2 c3 c4 c5 r0 r1 r2 r3 r4 g0 g1 g2 g3 g4
      go_wp2
      refine bodyPost_ret (ret_sal H4.out.1 rfl rfl rfl) rfl ?_
      rw [HV.out]
      have b4 := H4.out.2.1
      have o4 := H4.out.2.2
      simp only [H1.out.2.2.1] at b4 o4 ⊢
      exact ⟨⟨_, rfl, .slice qe ne ce, rfl, by rw [HN.out]; exact o4⟩, b4⟩
end Go.Proofs.YtnecnchdffmhbaaDoor

namespace Go.Proofs.YtnecnchdffmhbaaDoor
open Go.RowKit Go.Shelf
attribute [local go_sem] Oper.semAt_some

/-- A record that is asked about: what is known of its list. -/
structure RcIn (W : World) (q : Option Addr) (cap : Nat) (L : List Ev) : Prop where
  row : Row W W.heap.size q L.length (L.flatMap ec)
  cap : L.length ≤ cap
  sz : ∀ e ∈ L, EvSz e
  vn : ∀ e ∈ L, -9223372036854775808 ≤ e.vn ∧ e.vn ≤ 9223372036854775807
  most : L.length ≤ 140737488355328
section
variable (W : World) (ph tr : Int) (out : ByteArray) (inp : Int) (q : Option Addr) (cap : Nat) (L : List Ev)
/-- What Encode answers. -/
def EncP (e : Ending) (w' : World) : Prop := e = .returned (.tuple #[.string ⟨(encS ⟨ph, tr, out.data.toList, inp, L⟩).1.toArray⟩, .int .i64 (encS ⟨ph, tr, out.data.toList, inp, L⟩).2]) ∧ Below W.heap.size W w'
set_option maxRecDepth 100000 in
set_option maxHeartbeats 2000000 in
theorem encode_size (hn : L.length ≤ 140737488355328) (ho : out.size ≤ 140737488355328) (hb : 1048576 < L.length ∨ 16777216 < out.size) :
    Calls Tryd.prog 10 #[.agg (recC ph tr out inp q L.length cap)] W (EncP W ph tr out inp L) := by
  have HV : Hid (encS ⟨ph, tr, out.data.toList, inp, L⟩ = ([], 2)) := by
    show encS _ = _
    unfold encS
    rw [if_pos (by rw [← Lib.size_eq]; exact hb)]
  have HN : Hid (L.length = L.length) := rfl
  unfold recC
  generalize L.length = n at *
  have qo : (out.size : Int) ≤ 140737488355328 := by omega
  have qn : (n : Int) ≤ 140737488355328 := by omega
  have H1 : Hid (Below W.heap.size W (W.alloc (.cells #[.int .i64 ph, .int .i64 tr, .string out, .int .i64 inp, .slice q n cap] 28))) := (Below.refl _ W).alloc (Nat.le_refl _) _
  rcases Nat.lt_or_ge 1048576 n with h | h
  · have q1 : (1048576 : Int) < (n : Int) := by omega
    clear hb h hn ho
    go_enter Tryd.func10, Tryd.ntmps10
    go_wp2_with fail
    go_ret2
    unfold EncP
    rw [HV.out]
    exact ⟨rfl, H1.out⟩
  · have q1 : (n : Int) ≤ 1048576 := by omega
    have q2 : (16777216 : Int) < (out.size : Int) := by omega
    clear hb h hn ho
    go_enter Tryd.func10, Tryd.ntmps10
    go_wp2_with fail
    go_ret2
    unfold EncP
    rw [HV.out]
    exact ⟨rfl, H1.out⟩
set_option maxRecDepth 100000 in
set_option maxHeartbeats 2000000 in
theorem encode_bad (hI : RcIn W q cap L) (h1 : L.length ≤ 1048576) (h2 : out.size ≤ 16777216) (hb : (endOk ph tr inp && L.all evOk) = false) :
    Calls Tryd.prog 10 #[.agg (recC ph tr out inp q L.length cap)] W (EncP W ph tr out inp L) := by
  have HV : Hid (encS ⟨ph, tr, out.data.toList, inp, L⟩ = ([], 1)) := by
    show encS _ = _
    unfold encS
    rw [if_neg (by rw [← Lib.size_eq]; show ¬ (1048576 < L.length ∨ _); omega)]
    simp only [hb]
    rfl
  obtain ⟨X1, hX1⟩ : ∃ X, W.alloc (.cells (recC ph tr out inp q L.length cap) 28) = X := ⟨_, rfl⟩
  obtain ⟨R, hR⟩ : ∃ R, W.heap.size = R := ⟨_, rfl⟩
  have b1 : Below W.heap.size W X1 := by rw [← hX1]; exact (Below.refl _ W).alloc (Nat.le_refl _) _
  have f1 : Full X1 R 28 [.int .i64 ph, .int .i64 tr, .string out, .int .i64 inp, .slice q L.length cap] := by rw [← hX1, ← hR]; exact Full.new W _ _
  have HE := end_any X1 ph tr out inp q L.length cap
  have HM : ∀ w2, Below X1.heap.size X1 w2 → Calls Tryd.prog 23 #[.slice q L.length cap] w2 fun e w' => e = .returned (.bool (L.all evOk)) ∧ Below w2.heap.size w2 w' := fun w2 hb2 =>
    evm_any w2 q cap L ((hI.row.below b1 (Nat.le_refl _)).below (hb2.mono b1.size) (Nat.le_refl _) |>.up (Nat.le_trans b1.size hb2.size)) hI.sz hI.most
  unfold recC at hX1 HE ⊢
  obtain ⟨n, hn⟩ : ∃ n, L.length = n := ⟨_, rfl⟩
  rw [hn] at hX1 HE f1 h1 ⊢
  simp only [hn] at HM
  have H1 : Hid (Below W.heap.size W X1 ∧ Full X1 R 28 [.int .i64 ph, .int .i64 tr, .string out, .int .i64 inp, .slice q n cap]) := ⟨b1, f1⟩
  have q1 : (n : Int) ≤ 1048576 := by omega
  have q2 : (out.size : Int) ≤ 16777216 := by omega
  obtain ⟨⟨⟨r0, -⟩, ⟨r1, -⟩, r2, -⟩, ⟨r3, -⟩, r4, -⟩ := f1.five2
  have HMh : Hid (∀ w2, Below X1.heap.size X1 w2 → Calls Tryd.prog 23 #[.slice q n cap] w2 fun e w' => e = .returned (.bool (L.all evOk)) ∧ Below w2.heap.size w2 w') := HM
  clear b1 f1 hI h1 h2 hn HM
  cases he : endOk ph tr inp with
  | false =>
    rw [he] at HE
    clear he hb
    go_enter Tryd.func10, Tryd.ntmps10
    go_wp2_with fail
    refine HE.mono ?_
    rintro e w2 ⟨rfl, hb2⟩
    have H2 : Hid (Below W.heap.size W w2) := H1.out.1.trans (hb2.mono H1.out.1.size)
    clear HE hb2 r0 r1 r2 r3 r4
    go_wp2_with fail
    go_ret2
    unfold EncP
    rw [HV.out]
    exact ⟨rfl, H2.out⟩
  | true =>
    rw [he] at HE hb
    have HL : Hid (L.all evOk = false) := by rw [Bool.true_and] at hb; exact hb
    clear he hb
    go_enter Tryd.func10, Tryd.ntmps10
    go_wp2_with fail
    refine HE.mono ?_
    rintro e w2 ⟨rfl, hb2⟩
    have H2 : Hid (Below W.heap.size W w2) := H1.out.1.trans (hb2.mono H1.out.1.size)
    have HM := HMh.out w2 hb2
    rw [HL.out] at HM
    have f2 := H1.out.2.next hb2
    clear HE hb2 r0 r1 r2 r3 r4
    obtain ⟨-, -, r4, -⟩ := f2.five2
    clear f2
    go_wp2_with fail
    refine HM.mono ?_
    rintro e w3 ⟨rfl, hb3⟩
    have H3 : Hid (Below W.heap.size W w3) := H2.out.trans (hb3.mono H2.out.size)
    clear HM hb3 r4
    go_wp2_with fail
    go_ret2
    unfold EncP
    rw [HV.out]
    exact ⟨rfl, H3.out⟩
end
end Go.Proofs.YtnecnchdffmhbaaDoor

namespace Go.Proofs.YtnecnchdffmhbaaDoor
open Go.RowKit Go.Shelf
attribute [local go_sem] Oper.semAt_some

/-- Where Encode stands in its loop. -/
structure EnI (W : World) (R P B : Nat) (rcv : List Value) (q : Option Addr) (n cap : Nat) (D : List UInt8) (wr : World) : Prop where
  i : IsB P P D wr
  r : Full wr R 28 rcv
  s : Full wr B 26 [.slice q n cap]
  k : Full wr (B + 1) 3 [.int .i64 64]
  bel : Below W.heap.size W wr
theorem EnI.own {W : World} {R P B C : Nat} {rcv : List Value} {q : Option Addr} {n cap : Nat} {D : List UInt8} {a b : World} {row : Option Nat} (h : EnI W R P B rcv q n cap D a) (hg : a.grownBy b row) (hB : W.heap.size ≤ C) (hr : ∀ r, row = some r → C ≤ r ∧ ∃ o : Obj, a.heap[r]? = some o ∧ o.isCells = false) : EnI W R P B rcv q n cap D b :=
  ⟨h.i.grown hg fun r e => (hr r e).2, full_grown h.r hg fun r e => (hr r e).2, full_grown h.s hg fun r e => (hr r e).2, full_grown h.k hg fun r e => (hr r e).2, h.bel.grown hg h.bel.size fun k e => Nat.le_trans hB (hr k e).1⟩
theorem EnI.next {W : World} {R P B : Nat} {rcv : List Value} {q : Option Addr} {n cap : Nat} {D : List UInt8} {a b : World} (h : EnI W R P B rcv q n cap D a) (k : Below a.heap.size a b) : EnI W R P B rcv q n cap D b :=
  ⟨h.i.next k, h.r.next k, h.s.next k, h.k.next k, h.bel.trans (k.mono h.bel.size)⟩
theorem EnI.write {W : World} {R P B : Nat} {rcv : List Value} {q : Option Addr} {n cap : Nat} {D D' : List UInt8} {a b : World} (h : EnI W R P B rcv q n cap D a) (hR : R < P) (hB : P < B) (hW : W.heap.size ≤ P) (q1 : IsB P P D' b ∧ Below P a b ∧ OthB P a b) : EnI W R P B rcv q n cap D' b :=
  ⟨q1.1, q1.2.2.full h.r (by omega) (by decide), q1.2.2.full h.s (by omega) (by decide), q1.2.2.full h.k (by omega) (by decide), h.bel.trans (q1.2.1.mono hW)⟩
/-- The temporaries behind the iterator's making. -/
def enT (ph tr : Int) (out : ByteArray) (inp : Int) (q : Option Addr) (n cap R P B : Nat) (v u w : Value) : Array Value := #[.agg #[.int .i64 ph, .int .i64 tr, .string out, .int .i64 inp, .slice q n cap], .pointer (some ⟨R, 0, none⟩), .string ⟨#[]⟩, .int .i64 0, .pointer (some ⟨P, 0, none⟩), u, .pointer (some ⟨R, 4, none⟩), .slice q n cap, .int .i64 (n : Int), .bool (decide (1048576 < (n : Int))), .bool (decide (1048576 < (n : Int))), .pointer (some ⟨R, 2, none⟩), .string out, .int .i64 (out.size : Int), .bool (decide (16777216 < (out.size : Int))), .bool (decide (1048576 < (n : Int)) || decide (16777216 < (out.size : Int))), .agg #[.int .i64 ph, .int .i64 tr, .string out, .int .i64 inp, .slice q n cap], .bool true, .bool false, .bool false, .pointer (some ⟨R, 4, none⟩), .slice q n cap, .bool true, .bool false, .bool false, v, .pointer (some ⟨R, 4, none⟩), .slice q n cap, .func (.func 41) #[] #[.pointer (some ⟨B, 0, none⟩), .pointer (some ⟨B + 1, 0, none⟩)], w, undef, undef, undef, undef, undef, undef, undef, undef, undef]
set_option maxRecDepth 100000 in
set_option maxHeartbeats 4000000 in
theorem encode_good (W : World) (ph tr : Int) (out : ByteArray) (inp : Int) (q : Option Addr) (cap : Nat) (L : List Ev) (hT : SumT W) (hI : RcIn W q cap L) (h1 : L.length ≤ 1048576) (h2 : out.size ≤ 16777216) (h3 : endOk ph tr inp = true) (h4 : L.all evOk = true) :
    Calls Tryd.prog 10 #[.agg (recC ph tr out inp q L.length cap)] W (EncP W ph tr out inp L) := by
  have HV : Hid (encS ⟨ph, tr, out.data.toList, inp, L⟩ = (fileL ⟨ph, tr, out.data.toList, inp, L⟩, 0)) := enc_of h4 h1 (by rw [← Lib.size_eq]; exact h2) h3
  obtain ⟨X1, hX1⟩ : ∃ X, W.alloc (.cells (recC ph tr out inp q L.length cap) 28) = X := ⟨_, rfl⟩
  obtain ⟨R, hR⟩ : ∃ R, W.heap.size = R := ⟨_, rfl⟩
  have b1 : Below W.heap.size W X1 := by rw [← hX1]; exact (Below.refl _ W).alloc (Nat.le_refl _) _
  have f1 : Full X1 R 28 [.int .i64 ph, .int .i64 tr, .string out, .int .i64 inp, .slice q L.length cap] := by rw [← hX1, ← hR]; exact Full.new W _ _
  have HE := end_any X1 ph tr out inp q L.length cap
  have HM : ∀ w2, Below X1.heap.size X1 w2 → Calls Tryd.prog 23 #[.slice q L.length cap] w2 fun e w' => e = .returned (.bool (L.all evOk)) ∧ Below w2.heap.size w2 w' := fun w2 hb2 =>
    evm_any w2 q cap L ((hI.row.below b1 (Nat.le_refl _)).below (hb2.mono b1.size) (Nat.le_refl _) |>.up (Nat.le_trans b1.size hb2.size)) hI.sz hI.most
  have HLast : ∀ wr, Calls Tryd.prog 28 #[.agg (recC ph tr out inp q L.length cap)] wr fun e w' => e = .returned (.string ⟨(lastL ⟨ph, tr, out.data.toList, inp, L⟩).toArray⟩) ∧ Below wr.heap.size wr w' := fun wr => last_any wr ph tr out inp q L.length cap L rfl (by omega) h3 (by omega)
  obtain ⟨g, o, hgo⟩ : ∃ g o, 0 < L.length → q = some ⟨g, o, none⟩ ∧ g < W.heap.size ∧ W.rangeAt g o (L.flatMap ec) := by
    rcases Nat.eq_zero_or_pos L.length with h | h
    · exact ⟨0, 0, fun k => by omega⟩
    · obtain ⟨g, o, k1, k2, k3⟩ := hI.row h
      exact ⟨g, o, fun _ => ⟨k1, k2, k3⟩⟩
  have hcap := hI.cap
  have hvn := hI.vn
  rw [h3] at HE
  rw [h4] at HM
  unfold recC at hX1 HE HLast ⊢
  obtain ⟨n, hn⟩ : ∃ n, L.length = n := ⟨_, rfl⟩
  rw [hn] at hX1 HE f1 h1 hcap ⊢
  simp only [hn] at HM HLast
  have H1 : Hid (Below W.heap.size W X1 ∧ Full X1 R 28 [.int .i64 ph, .int .i64 tr, .string out, .int .i64 inp, .slice q n cap] ∧ W.heap.size = R) := ⟨b1, f1, hR⟩
  have HL : Hid (L.length = n ∧ n ≤ 1048576 ∧ L.all evOk = true ∧ (∀ e ∈ L, -9223372036854775808 ≤ e.vn ∧ e.vn ≤ 9223372036854775807) ∧ n ≤ cap ∧ out.size ≤ 16777216) := ⟨hn, h1, h4, hvn, hcap, h2⟩
  have HGO : Hid (0 < L.length → q = some ⟨g, o, none⟩ ∧ g < W.heap.size ∧ W.rangeAt g o (L.flatMap ec)) := hgo
  have HT : Hid (SumT W) := hT
  have q1 : (n : Int) ≤ 1048576 := by omega
  have q2 : (out.size : Int) ≤ 16777216 := by omega
  obtain ⟨⟨⟨r0, -⟩, ⟨r1, -⟩, r2, -⟩, ⟨r3, -⟩, r4, -⟩ := f1.five2
  have HMh : Hid (∀ w2, Below X1.heap.size X1 w2 → Calls Tryd.prog 23 #[.slice q n cap] w2 fun e w' => e = .returned (.bool true) ∧ Below w2.heap.size w2 w') := HM
  have HLastH : Hid (∀ wr, Calls Tryd.prog 28 #[.agg #[.int .i64 ph, .int .i64 tr, .string out, .int .i64 inp, .slice q n cap]] wr fun e w' => e = .returned (.string ⟨(lastL ⟨ph, tr, out.data.toList, inp, L⟩).toArray⟩) ∧ Below wr.heap.size wr w') := HLast
  clear b1 f1 hI h1 h2 h3 h4 hn HM HLast hgo hcap hvn hT
  refine (callsIn_wide (n := 6)).1 ?_
  refine callsIn_of_wp_marks Tryd.func10 rfl trivial ?_ rfl
  simp only [Tryd.ntmps10, List.size_toArray, List.length_cons, List.length_nil, Nat.reduceAdd, Nat.reduceSub, Array.replicate_succ, Array.replicate_zero, List.push_toArray, List.append_toArray, List.nil_append, List.cons_append]
  gi_wp2_with fail
  refine ⟨trivial, (callsIn_wide.2 HE).mono ?_⟩
  rintro e w2 ⟨rfl, hb2⟩
  have HM := HMh.out w2 hb2
  have f2 := H1.out.2.1.next hb2
  have H2 : Hid (Below W.heap.size W w2 ∧ Full w2 R 28 [.int .i64 ph, .int .i64 tr, .string out, .int .i64 inp, .slice q n cap]) := ⟨H1.out.1.trans (hb2.mono H1.out.1.size), f2⟩
  clear HE hb2 r0 r1 r2 r3 r4 HMh
  obtain ⟨-, -, r4, -⟩ := f2.five2
  clear f2
  gi_wp2_with fail
  refine ⟨trivial, (callsIn_wide.2 HM).mono ?_⟩
  rintro e w3 ⟨rfl, hb3⟩
  obtain ⟨X4, hX4⟩ : ∃ X, w3.alloc (.cells #[.pointer none, .slice none 0 0] 64) = X := ⟨_, rfl⟩
  obtain ⟨P, hP⟩ : ∃ P, w3.heap.size = P := ⟨_, rfl⟩
  have nb : Below w3.heap.size w3 X4 := by rw [← hX4]; exact (Below.refl _ _).alloc (Nat.le_refl _) _
  have i4 : IsB P P [] X4 := by rw [← hX4, ← hP]; exact Lib.fresh_isBuilder 64 5 w3
  have z4 : X4.heap.size = P + 1 := by rw [← hX4, World.size_alloc, hP]
  have f4 := (H2.out.2.next hb3).next nb
  have b4 : Below W.heap.size W X4 := (H2.out.1.trans (hb3.mono H2.out.1.size)).trans (nb.mono (Nat.le_trans H2.out.1.size hb3.size))
  have hRP : R < P := by rw [← hP]; exact (H2.out.2.next hb3).lt
  have HWr := bw_any (⟨#[82, 1]⟩ : ByteArray) i4 (by decide) (by omega)
  have H4 : Hid (Full X4 R 28 [.int .i64 ph, .int .i64 tr, .string out, .int .i64 inp, .slice q n cap] ∧ Below W.heap.size W X4 ∧ R < P ∧ X4.heap.size = P + 1) := ⟨f4, b4, hRP, z4⟩
  clear HM hb3 r4 nb i4 z4 f4 b4 hRP H2
  gi_wp2_with fail
  refine ⟨trivial, (callsIn_wide.2 HWr).mono ?_⟩
  rintro e w5 ⟨⟨v, rfl⟩, hq5⟩
  have f5 := hq5.out.2.2.full H4.out.1 (by have := H4.out.2.2.1; omega) (by decide)
  obtain ⟨B, hB⟩ : ∃ B, w5.heap.size = B := ⟨_, rfl⟩
  have hPB : P < B := by have h1 := hq5.out.2.1.size; have h2 := H4.out.2.2.2; omega
  have H5 : Hid (IsB P P [82, 1] w5 ∧ Full w5 R 28 [.int .i64 ph, .int .i64 tr, .string out, .int .i64 inp, .slice q n cap] ∧ Below W.heap.size W w5 ∧ R < P ∧ P < B ∧ W.heap.size ≤ P) := by
    have hWP : W.heap.size ≤ P := by have := H4.out.2.2.1; have := H1.out.2.2; omega
    exact ⟨hq5.out.1, f5, H4.out.2.1.trans (hq5.out.2.1.mono hWP), H4.out.2.2.1, hPB, hWP⟩
  have HCh := chunks_any q n cap w5
  rw [hB] at HCh
  obtain ⟨-, -, r4, -⟩ := f5.five2
  clear hq5 f5 hPB HWr H4 hX4 hP
  gi_wp2_with fail
  refine ⟨trivial, (callsIn_wide.2 HCh).mono ?_⟩
  rintro e w6 ⟨rfl, hw6⟩
  clear HCh r4
  gi_wp2
  obtain ⟨X6, hX6⟩ : ∃ X, (w5.alloc (.cells #[.slice q n cap] 26)).alloc (.cells #[.int .i64 64] 3) = X := ⟨_, rfl⟩
  have nb6 : Below w5.heap.size w5 X6 := by rw [← hX6]; exact ((Below.refl _ w5).alloc (Nat.le_refl _) _).alloc (by simp) _
  have fs6 : Full X6 B 26 [.slice q n cap] := by
    rw [← hX6, ← hB]
    exact (Full.new w5 _ _).next ((Below.refl _ _).alloc (Nat.le_refl _) _)
  have fk6 : Full X6 (B + 1) 3 [.int .i64 64] := by
    have h := Full.new (w5.alloc (.cells #[.slice q n cap] 26)) #[.int .i64 64] 3
    rw [World.size_alloc, hB, hX6] at h
    exact h
  have z6 : X6.heap.size = B + 2 := by rw [← hX6, World.size_alloc, World.size_alloc, hB]
  have h0 : EnI W R P B [.int .i64 ph, .int .i64 tr, .string out, .int .i64 inp, .slice q n cap] q n cap [82, 1] X6 :=
    ⟨H5.out.1.next nb6, H5.out.2.1.next nb6, fs6, fk6, H5.out.2.2.1.trans (nb6.mono H5.out.2.2.1.size)⟩
  have hck : ChK B g o n cap q X6 := ⟨(fs6.cell 0 _ rfl).1, (fk6.cell 0 _ rfl).1⟩
  have HO : Hid (R < P ∧ P < B ∧ W.heap.size ≤ P) := H5.out.2.2.2
  have hBs : B + 1 < X6.heap.size := by omega
  have hqg : 0 < n → q = some ⟨g, o, none⟩ := fun k => (HGO.out (by rw [HL.out.1]; exact k)).1
  have hnm := HL.out.2.1
  have hcp := HL.out.2.2.2.2.1
  have hWX : W.heap.size ≤ X6.heap.size := h0.bel.size
  rw [hX6]
  clear hw6 hX6 hB nb6 fs6 fk6 z6 H5
  refine wpIn_range_guard rfl (by omega) (gf := 41) (lb := #[.pointer (some ⟨B, 0, none⟩), .pointer (some ⟨B + 1, 0, none⟩)]) rfl trivial (enters_of Tryd.func41 (by kernel_rfl) rfl)
    (chunks_seq 5 (by omega) B g o n cap q X6 hnm hcp hqg hck hBs) (Below.refl _ _) (fun _ => rfl)
    (fun pre wr => ∃ D, EnD L pre.length D ∧ 64 * pre.length < n + 64 ∧ EnI W R P B [.int .i64 ph, .int .i64 tr, .string out, .int .i64 inp, .slice q n cap] q n cap D wr)
    (fun _ _ _ => False)
    (fun s A B' row hs hg hr => by
      obtain ⟨D, k1, k2, k3⟩ := hs
      exact ⟨D, k1, k2, k3.own hg hWX hr⟩)
    (fun c s A B' row hs hg hr => hs)
    ⟨[82, 1], EnD.zero L, by show 64 * 0 < n + 64; omega, h0⟩
    (fun pre wr hs => by
      obtain ⟨D, k1, k2, k3⟩ := hs
      exact ⟨(k3.s.cell 0 _ rfl).1, (k3.k.cell 0 _ rfl).1⟩)
    (fun _ _ _ _ => trivial)
    (fun x => { tmps := enT ph tr out inp q n cap R P B v (partV g o n x) (partV g o n x), defers := [] }) ?assign ?body ?done ?stop
  case assign =>
    intro l x Wc K hK
    gi_wp2
    simpa [enT] using hK
  case stop =>
    rintro D c pre Wd _ h _
    exact h.elim
  case body =>
    rintro l pre x Wc ⟨D, hD, hpl, hEI⟩ ⟨rfl, hlt⟩
    obtain ⟨k, hk⟩ : ∃ k, pre.length = k := ⟨_, rfl⟩
    rw [hk] at hD hpl hlt ⊢
    obtain ⟨rfl, hgW, hrg⟩ := HGO.out (by have := HL.out.1; omega)
    obtain ⟨p, hp⟩ : ∃ p, (L.drop (64 * k)).take 64 = p := ⟨_, rfl⟩
    have hok : EvsOk p := by rw [← hp]; exact part_ok HL.out.2.2.1 HL.out.2.2.2.1 (64 * k)
    obtain ⟨e, he⟩ : ∃ e, min 64 (n - 64 * k) = e := ⟨_, rfl⟩
    have hpe : p.length = e := by rw [← hp, List.length_take, List.length_drop, HL.out.1]; exact he
    have hgc : g < Wc.heap.size := Nat.lt_of_lt_of_le hgW hEI.bel.size
    have hrow : Row Wc Wc.heap.size (some ⟨g, o + 64 * k * 6, none⟩) p.length (p.flatMap ec) := fun _ => ⟨g, o + 64 * k * 6, rfl, hgc, by
      rw [← hp]
      exact row_part (range_same hrg (hEI.bel.block g hgW)) (64 * k) (by have := HL.out.1; omega)⟩
    have HC := body_any Wc (some ⟨g, o + 64 * k * 6, none⟩) e p hrow hok
    rw [hpe] at HC
    have hpv : partV g o n k = .slice (some ⟨g, o + 64 * k * 6, none⟩) e e := by unfold partV; rw [he]
    rw [hpv]
    unfold enT
    have hbl := body_le hok
    obtain ⟨bd, hbd⟩ : ∃ bd : ByteArray, (⟨(bodyL p).toArray⟩ : ByteArray) = bd := ⟨_, rfl⟩
    have hbdl : bd.data.toList = bodyL p := by rw [← hbd]
    have hbds : bd.size ≤ 25601 := by rw [Lib.size_eq, hbdl]; exact hbl
    rw [hbd] at HC
    obtain ⟨cb, hcb⟩ : ∃ cb : ByteArray, (⟨(chS bd.data.toList).toArray⟩ : ByteArray) = cb := ⟨_, rfl⟩
    have hcbl : cb.data.toList = chS (bodyL p) := by rw [← hcb, ← hbdl]
    have hcbs : cb.size ≤ 25609 := by rw [Lib.size_eq, hcbl, chS_len]; omega
    have HD : Hid (EnD L (k + 1) (D ++ cb.data.toList)) := by rw [hcbl, ← hp]; exact hD.go HL.out.2.2.1 HL.out.2.2.2.1 (by rw [HL.out.1]; exact hlt)
    have hDl := hD.len
    have HEI : Hid (EnI W R P B [.int .i64 ph, .int .i64 tr, .string out, .int .i64 inp, .slice (some ⟨g, o, none⟩) n cap] (some ⟨g, o, none⟩) n cap D Wc) := hEI
    have HKk : Hid (pre.length = k ∧ 64 * k < n) := ⟨hk, hlt⟩
    clear hrow hpv hok hpe he hp hbl hbd hbdl hcbl hD hpl hEI hk hrg hgW hgc h0 hck hBs hqg hcp hWX
    gi_wp2_with fail
    refine ⟨trivial, ?_⟩
    gi_at_call 27
    refine (callsIn_wide.2 HC).mono ?_
    rintro e8 w8 ⟨rfl, hb8⟩
    have HE8 := HEI.out.next hb8
    have HC2 := chunk_any w8 bd (HT.out.next HE8.bel) (by omega)
    rw [hcb] at HC2
    have HE8h : Hid (EnI W R P B [.int .i64 ph, .int .i64 tr, .string out, .int .i64 inp, .slice (some ⟨g, o, none⟩) n cap] (some ⟨g, o, none⟩) n cap D w8 ∧ Below Wc.heap.size Wc w8) := ⟨HE8, hb8⟩
    clear HC hb8 HE8 hcb
    gi_wp2_with fail
    refine ⟨trivial, ?_⟩
    gi_at_call 26
    refine (callsIn_wide.2 HC2).mono ?_
    rintro e9 w9 ⟨rfl, hb9⟩
    have HE9 := HE8h.out.1.next hb9
    have HC3 := bw_any cb HE9.i (by have := HKk.out; have := HL.out.2.1; omega) (Nat.le_of_lt (by rcases HE9.i with h | h <;> exact bat_lt h))
    have HE9h : Hid (EnI W R P B [.int .i64 ph, .int .i64 tr, .string out, .int .i64 inp, .slice (some ⟨g, o, none⟩) n cap] (some ⟨g, o, none⟩) n cap D w9 ∧ Below w8.heap.size w8 w9) := ⟨HE9, hb9⟩
    clear HC2 hb9 HE9
    gi_wp2_with fail
    refine ⟨trivial, ?_⟩
    gi_at_call 24
    refine (callsIn_wide.2 HC3).mono ?_
    rintro e10 w10 ⟨⟨v10, rfl⟩, hq⟩
    clear HC3
    gi_wp2
    have hlen : (pre ++ [k]).length = k + 1 := by rw [List.length_append, List.length_singleton, HKk.out.1]
    refine ⟨((keeps_below HE8h.out.2).trans (keeps_below HE9h.out.2)).trans (keeps_othB HE9h.out.1.i hq.out.2.2 hq.out.2.1.size), D ++ cb.data.toList, by rw [hlen]; exact HD.out, by rw [hlen]; have := HKk.out; omega, HE9h.out.1.write HO.out.1 HO.out.2.1 HO.out.2.2 hq.out⟩
  case done =>
    rintro D0 xs Wd hD0 hS ⟨D, hD, hpl, hEI⟩ hK
    obtain rfl := hD.end_ (by rw [HL.out.1]; exact hS)
    have HK : Hid (Wd.heap[D0]? = some (.deferred (some [])) ∧ W.heap.size ≤ D0) := ⟨hK, Nat.le_trans hWX hD0⟩
    have HEI : Hid (EnI W R P B [.int .i64 ph, .int .i64 tr, .string out, .int .i64 inp, .slice q n cap] q n cap ([82, 1] ++ evF L) Wd) := hEI
    have HDl : Hid (([82, 1] ++ evF L).length ≤ 2 + 25609 * xs.length ∧ 64 * xs.length < n + 64) := ⟨hD.len, hpl⟩
    obtain ⟨⟨⟨r0, -⟩, ⟨r1, -⟩, r2, -⟩, ⟨r3, -⟩, r4, -⟩ := hEI.r.five2
    have HC := HLastH.out Wd
    clear h0 hck hBs hqg hcp hWX hD0 hS hD hpl hEI hK
    obtain ⟨lb, hlb⟩ : ∃ lb : ByteArray, (⟨(lastL ⟨ph, tr, out.data.toList, inp, L⟩).toArray⟩ : ByteArray) = lb := ⟨_, rfl⟩
    have hlbl : lb.data.toList = lastL ⟨ph, tr, out.data.toList, inp, L⟩ := by rw [← hlb]
    have hlbs : lb.size ≤ 16777225 := by
      rw [Lib.size_eq, hlbl, lastL_len]
      show 9 + out.data.toList.length ≤ _
      rw [← Lib.size_eq]
      have := HL.out.2.2.2.2.2
      omega
    rw [hlb] at HC
    obtain ⟨cb, hcb⟩ : ∃ cb : ByteArray, (⟨(chS lb.data.toList).toArray⟩ : ByteArray) = cb := ⟨_, rfl⟩
    have hcbl : cb.data.toList = chS (lastL ⟨ph, tr, out.data.toList, inp, L⟩) := by rw [← hcb, ← hlbl]
    have hcbs : cb.size ≤ 16777233 := by rw [Lib.size_eq, ← hcb, chS_len, ← Lib.size_eq]; omega
    have HFl : Hid (([82, 1] ++ evF L) ++ cb.data.toList = fileL ⟨ph, tr, out.data.toList, inp, L⟩) := by
      rw [hcbl]
      rfl
    clear hlb hlbl hcbl
    gi_wp2_with fail
    refine ⟨trivial, ?_⟩
    gi_at_call 28
    refine (callsIn_wide.2 HC).mono ?_
    rintro e8 w8 ⟨rfl, hb8⟩
    have HE8 := HEI.out.next hb8
    have HC2 := chunk_any w8 lb (HT.out.next HE8.bel) (by omega)
    rw [hcb] at HC2
    have HE8h : Hid (EnI W R P B [.int .i64 ph, .int .i64 tr, .string out, .int .i64 inp, .slice q n cap] q n cap ([82, 1] ++ evF L) w8 ∧ w8.heap[D0]? = some (.deferred (some []))) := ⟨HE8, (keeps_below hb8).same D0 _ HK.out.1 rfl⟩
    clear HC hb8 HE8 hcb r0 r1 r2 r3 r4 HEI
    gi_wp2_with fail
    refine ⟨trivial, ?_⟩
    gi_at_call 26
    refine (callsIn_wide.2 HC2).mono ?_
    rintro e9 w9 ⟨rfl, hb9⟩
    have HE9 := HE8h.out.1.next hb9
    have HC3 := bw_any cb HE9.i (by have := HDl.out; have := HL.out.2.1; omega) (Nat.le_of_lt (by rcases HE9.i with h | h <;> exact bat_lt h))
    have HE9h : Hid (EnI W R P B [.int .i64 ph, .int .i64 tr, .string out, .int .i64 inp, .slice q n cap] q n cap ([82, 1] ++ evF L) w9 ∧ w9.heap[D0]? = some (.deferred (some []))) := ⟨HE9, (keeps_below hb9).same D0 _ HE8h.out.2 rfl⟩
    clear HC2 hb9 HE9 HE8h
    gi_wp2_with fail
    refine ⟨trivial, ?_⟩
    gi_at_call 24
    refine (callsIn_wide.2 HC3).mono ?_
    rintro e10 w10 ⟨⟨v10, rfl⟩, hq⟩
    have HEa := HE9h.out.1.write HO.out.1 HO.out.2.1 HO.out.2.2 hq.out
    rw [HFl.out] at HEa
    have HEah : Hid (EnI W R P B [.int .i64 ph, .int .i64 tr, .string out, .int .i64 inp, .slice q n cap] q n cap (fileL ⟨ph, tr, out.data.toList, inp, L⟩) w10 ∧ w10.heap[D0]? = some (.deferred (some []))) := ⟨HEa, (keeps_othB HE9h.out.1.i hq.out.2.2 hq.out.2.1.size).same D0 _ HE9h.out.2 rfl⟩
    have HC4 := Tryd.Builder_String_any_k P P (fileL ⟨ph, tr, out.data.toList, inp, L⟩) w10 (Lib.IsBuilderF.of HEa.i) (Nat.le_of_lt (by rcases HEa.i with h | h <;> exact bat_lt h))
    clear HC3 HEa HE9h hq
    gi_wp2_with fail
    refine ⟨trivial, ?_⟩
    gi_at_call 29
    refine (callsIn_wide.2 HC4).mono ?_
    rintro e11 w11 ⟨rfl, -, hb11, ho11⟩
    have HZ : Hid (w11.heap[D0]? = some (.deferred (some [])) ∧ Below W.heap.size W w11) := ⟨(keeps_othB HEah.out.1.i ho11 hb11.size).same D0 _ HEah.out.2 rfl, HEah.out.1.bel.trans (hb11.mono HO.out.2.2)⟩
    clear HC4 hb11 ho11 HEah
    gi_wp2
    refine ⟨by simp, .inl ⟨_, _, rfl, run_takeDeferred HZ.out.1, ?_⟩⟩
    refine ⟨.tuple #[.string ⟨(fileL ⟨ph, tr, out.data.toList, inp, L⟩).toArray⟩, .int .i64 0], by simp [results, Tryd.results10, go_sem], ?_⟩
    unfold EncP
    rw [HV.out]
    exact ⟨rfl, HZ.out.2.grown (grownBy_putObj' w11 D0 (.deferred none)) HZ.out.2.size (fun k e => by cases e; exact HK.out.2)⟩
/-- Encode, whole. -/
theorem encode_any (W : World) (ph tr : Int) (out : ByteArray) (inp : Int) (q : Option Addr) (cap : Nat) (L : List Ev) (hT : SumT W) (hI : RcIn W q cap L) (ho : out.size ≤ 140737488355328) :
    Calls Tryd.prog 10 #[.agg (recC ph tr out inp q L.length cap)] W (EncP W ph tr out inp L) := by
  by_cases hb : 1048576 < L.length ∨ 16777216 < out.size
  · exact encode_size W ph tr out inp q cap L hI.most ho hb
  · have h1 : L.length ≤ 1048576 := by omega
    have h2 : out.size ≤ 16777216 := by omega
    cases h : endOk ph tr inp && L.all evOk with
    | false => exact encode_bad W ph tr out inp q cap L hI h1 h2 h
    | true =>
      rw [Bool.and_eq_true] at h
      exact encode_good W ph tr out inp q cap L hT hI h1 h2 h.1 h.2
end Go.Proofs.YtnecnchdffmhbaaDoor

namespace Go.Proofs.YtnecnchdffmhbaaDoor
open Go.RowKit

theorem neSameE (a b : Int) (c : ByteArray) (d e : Int) (f : ByteArray) : ∀ w : World, (binOp BinOp.neq 54 (.agg #[.int .i64 a, .int .i64 b, .string c, .int .i64 d, .int .i64 e, .string f]) (.agg #[.int .i64 a, .int .i64 b, .string c, .int .i64 d, .int .i64 e, .string f])).run Tryd.prog w = .ok (.bool false) w := by
  intro w
  simp [go_sem]
theorem neSameO (a b : Int) : ∀ w : World, (binOp BinOp.neq 25 (.agg #[.int .i64 a, .int .i64 b]) (.agg #[.int .i64 a, .int .i64 b])).run Tryd.prog w = .ok (.bool false) w := by
  intro w
  simp [go_sem]
theorem neSameS (a : ByteArray) : ∀ w : World, (binOp BinOp.neq 9 (.string a) (.string a)).run Tryd.prog w = .ok (.bool false) w := by
  intro w
  simp [go_sem]
/-- An event of a row. -/
theorem ev_at {w : World} {B : Nat} {q : Option Addr} {L : List Ev} (h : Row w B q L.length (L.flatMap ec)) (i : Nat) (e : Ev) (he : L[i]? = some e) : ∃ g o, q = some ⟨g, o, none⟩ ∧ g < B ∧ ∀ j v, (ec e)[j]? = some v → w.cell? ⟨g, o + i * 6 + j, none⟩ = some v := by
  obtain ⟨g, o, hq, hg, hr⟩ := h (by have := (List.getElem?_eq_some_iff.1 he).1; omega)
  refine ⟨g, o, hq, hg, fun j v hv => ?_⟩
  rw [Nat.add_assoc]
  exact hr _ v (ec_at L i e he j v hv)
set_option maxRecDepth 100000 in
set_option maxHeartbeats 2000000 in
/-- Same, of two records that read alike. -/
theorem same_yes (W : World) (ph tr : Int) (out : ByteArray) (inp : Int) (L : List Ev) (q1 q2 : Option Addr) (c1 c2 : Nat) (h1 : Row W W.heap.size q1 L.length (L.flatMap ec)) (h2 : Row W W.heap.size q2 L.length (L.flatMap ec)) (hn : L.length ≤ 140737488355328) :
    Calls Tryd.prog 17 #[.agg (recC ph tr out inp q1 L.length c1), .agg (recC ph tr out inp q2 L.length c2)] W fun e w' => e = .returned (.bool true) ∧ Below W.heap.size W w' := by
  obtain ⟨X2, hX2⟩ : ∃ X, (W.alloc (.cells (recC ph tr out inp q1 L.length c1) 28)).alloc (.cells (recC ph tr out inp q2 L.length c2) 28) = X := ⟨_, rfl⟩
  obtain ⟨A, hA⟩ : ∃ A, W.heap.size = A := ⟨_, rfl⟩
  have b2 : Below W.heap.size W X2 := by rw [← hX2]; exact ((Below.refl _ W).alloc (Nat.le_refl _) _).alloc (by simp) _
  have fA : Full X2 A 28 [.int .i64 ph, .int .i64 tr, .string out, .int .i64 inp, .slice q1 L.length c1] := by
    rw [← hX2, ← hA]
    exact (Full.new W _ _).next ((Below.refl _ _).alloc (Nat.le_refl _) _)
  have fB : Full X2 (A + 1) 28 [.int .i64 ph, .int .i64 tr, .string out, .int .i64 inp, .slice q2 L.length c2] := by
    have h := Full.new (W.alloc (.cells (recC ph tr out inp q1 L.length c1) 28)) (recC ph tr out inp q2 L.length c2) 28
    rw [World.size_alloc, hX2, hA] at h
    exact h
  have R1 := h1.below b2 (Nat.le_refl _)
  have R2 := h2.below b2 (Nat.le_refl _)
  obtain ⟨n, hln⟩ : ∃ n, L.length = n := ⟨_, rfl⟩
  have HH : Hid (Row X2 W.heap.size q1 L.length (L.flatMap ec) ∧ Row X2 W.heap.size q2 L.length (L.flatMap ec) ∧ L.length = n ∧ Below W.heap.size W X2 ∧ Below W.heap.size W X2.drew) := ⟨R1, R2, hln, b2, b2.drew⟩
  have z2 : X2.heap.size = A + 2 := by rw [← hX2, World.size_alloc, World.size_alloc, hA]
  unfold recC at hX2 ⊢
  rw [hln] at hX2 fA fB hn ⊢
  obtain ⟨⟨⟨a0, -⟩, ⟨a1, -⟩, a2, -⟩, ⟨a3, -⟩, a4, -⟩ := fA.five2
  obtain ⟨⟨⟨b0, -⟩, ⟨b1, -⟩, b2', -⟩, ⟨b3, -⟩, b4, -⟩ := fB.five2
  have HF : Hid (Full X2 A 28 [.int .i64 ph, .int .i64 tr, .string out, .int .i64 inp, .slice q1 n c1] ∧ Full X2 (A + 1) 28 [.int .i64 ph, .int .i64 tr, .string out, .int .i64 inp, .slice q2 n c2]) := ⟨fA, fB⟩
  have K1 := neSameO ph tr
  have K2 := neSameS out
  clear R1 R2 h1 h2 b2 fA fB hln
  go_enter Tryd.func17, Tryd.ntmps17
  go_wp2_with fail
  have H0 : Hid (Full X2 A 28 [.int .i64 ph, .int .i64 tr, .string out, .int .i64 inp, .slice q1 n c1] ∧ Full X2 (A + 1) 28 [.int .i64 ph, .int .i64 tr, .string out, .int .i64 inp, .slice q2 n c2] ∧ Row X2 W.heap.size q1 L.length (L.flatMap ec) ∧ Row X2 W.heap.size q2 L.length (L.flatMap ec) ∧ Below W.heap.size W X2) := ⟨HF.out.1, HF.out.2, HH.out.1, HH.out.2.1, HH.out.2.2.2.1⟩
  have HN : Hid (L.length = n) := HH.out.2.2.1
  clear HH HF K1 K2 a0 a1 a2 a3 a4 b0 b1 b2' b3 b4 hX2 z2
  go_loopw [5] (fun v wr => ∃ i : Nat, v = .int .i64 (i : Int) ∧ i ≤ n ∧ Hid (Full wr A 28 [.int .i64 ph, .int .i64 tr, .string out, .int .i64 inp, .slice q1 n c1] ∧ Full wr (A + 1) 28 [.int .i64 ph, .int .i64 tr, .string out, .int .i64 inp, .slice q2 n c2] ∧ Row wr W.heap.size q1 L.length (L.flatMap ec) ∧ Row wr W.heap.size q2 L.length (L.flatMap ec) ∧ Below W.heap.size W wr)) (fun v _ => n - (intOf v).toNat)
  case atStart => exact ⟨0, rfl, Nat.zero_le _, H0⟩
  case round =>
    obtain ⟨i, rfl, him, HI⟩ := hrel
    clear H0
    obtain ⟨-, -, a4, -⟩ := HI.out.1.five2
    obtain ⟨-, -, b4, -⟩ := HI.out.2.1.five2
    by_cases hlt : i < n
    · have qi : (i : Int) < (n : Int) := by omega
      have q0 : (0 : Int) ≤ (i : Int) := by omega
      obtain ⟨e, he⟩ : ∃ e, L[i]? = some e := ⟨L[i]'(by rw [HN.out]; exact hlt), List.getElem?_eq_getElem _⟩
      obtain ⟨g, o, rfl, hgB, hr1⟩ := ev_at HI.out.2.2.1 i e he
      obtain ⟨g', o', rfl, hgB', hr2⟩ := ev_at HI.out.2.2.2.1 i e he
      obtain ⟨k, en, nm, vk, vn, vs⟩ := e
      have x0 := hr1 0 _ rfl
      have x1 := hr1 1 _ rfl
      have x2 := hr1 2 _ rfl
      have x3 := hr1 3 _ rfl
      have x4 := hr1 4 _ rfl
      have x5 := hr1 5 _ rfl
      have y0 := hr2 0 _ rfl
      have y1 := hr2 1 _ rfl
      have y2 := hr2 2 _ rfl
      have y3 := hr2 3 _ rfl
      have y4 := hr2 4 _ rfl
      have y5 := hr2 5 _ rfl
      unfold sV at x2 x5 y2 y5
      simp only [Nat.add_zero] at x0 y0
      have K := neSameE k en ⟨nm.toArray⟩ vk vn ⟨vs.toArray⟩
      have HId : Hid (Full wr.drew A 28 [.int .i64 ph, .int .i64 tr, .string out, .int .i64 inp, .slice (some ⟨g, o, none⟩) n c1] ∧ Full wr.drew (A + 1) 28 [.int .i64 ph, .int .i64 tr, .string out, .int .i64 inp, .slice (some ⟨g', o', none⟩) n c2] ∧ Row wr.drew W.heap.size (some ⟨g, o, none⟩) L.length (L.flatMap ec) ∧ Row wr.drew W.heap.size (some ⟨g', o', none⟩) L.length (L.flatMap ec) ∧ Below W.heap.size W wr.drew) := by
        have nb : Below wr.heap.size wr wr.drew := (Below.refl _ wr).drew
        have hs := HI.out.2.2.2.2.size
        exact ⟨HI.out.1.next nb, HI.out.2.1.next nb, HI.out.2.2.1.below nb hs, HI.out.2.2.2.1.below nb hs, HI.out.2.2.2.2.trans (nb.mono hs)⟩
      clear hr1 hr2 he hgB hgB'
      go_upto_region 6 with fail
      go_region
      all_goals
        clear x0 x1 x2 x3 x4 x5 y0 y1 y2 y3 y4 y5 a4 b4 K HI
        go_wp2
        exact ⟨⟨i + 1, by go_num, by omega, HId⟩, by simp [intOf]; omega⟩
    · obtain rfl : i = n := by omega
      have qi : ¬ (i : Int) < (i : Int) := by omega
      have HB : Hid (Below W.heap.size W wr) := HI.out.2.2.2.2
      clear HI hlt
      go_wp2
      go_ret
      exact ⟨rfl, hA ▸ HB.out⟩
end Go.Proofs.YtnecnchdffmhbaaDoor
