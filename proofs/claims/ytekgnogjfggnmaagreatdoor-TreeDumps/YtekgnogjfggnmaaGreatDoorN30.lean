import Derived.Deep.RegionHeld3
import Derived.Deep.DeepCutAuto
import Derived.Test.YtekgnogjfggnmaaGreatDoorN27
import Derived.Test.YtekgnogjfggnmaaGreatDoorN10
namespace Go.Proofs.YtekgnogjfggnmaaGreatDoor
open Go.RowKit Go.Shelf
set_option maxRecDepth 100000
set_option maxHeartbeats 4000000
def blk (d : Nat) : List UInt8 := List.replicate (2 * d) 32
theorem blk_succ (d : Nat) : blk (d + 1) = blk d ++ [32, 32] := by
 unfold blk
 rw [show 2 * (d + 1) = 2 * d + 1 + 1 by omega, List.replicate_succ', List.replicate_succ', List.append_assoc]
 rfl
theorem blk_len (d : Nat) : (blk d).length = 2 * d := List.length_replicate ..
def pLb (s : Shp) (x : Nd) : List UInt8 := if s.label = 0 then [] else aw x.label.data.toList
def pIt (s : Shp) (x : Nd) : List UInt8 := if 0 < s.mostInt then 32 :: Lib.itoa x.int else []
def pNm (s : Shp) (x : Nd) : List UInt8 := if s.name = 0 then [] else aw x.name.data.toList
def pTy (s : Shp) (x : Nd) : List UInt8 := if s.typ = 0 then [] else aw x.typ.data.toList
def pOp (s : Shp) (x : Nd) : List UInt8 := if 0 < s.lastOp then aw (sgT.getD x.op.toNat ByteArray.empty).data.toList else []
def pTx (s : Shp) (x : Nd) : List UInt8 := if 0 < s.longest then aw (Lx.qt x.text.data.toList) else []
def wordS (x : Nd) : List UInt8 := (wds.getD x.kind.toNat ByteArray.empty).data.toList
def lnB (s : Shp) (x : Nd) : List UInt8 := wordS x ++ pLb s x ++ pIt s x ++ pNm s x ++ pTy s x ++ pOp s x ++ pTx s x
def lnS (x : Nd) : List UInt8 := lnB (shp x.kind).1 x ++ [32, 64] ++ Lib.itoa x.pos ++ [10]
structure Tame (x : Nd) : Prop where
 k0 : 0 ≤ x.kind
 k1 : x.kind < 31
 p0 : -9223372036854775808 ≤ x.pos
 p1 : x.pos ≤ 9223372036854775807
 o0 : 0 ≤ x.op
 o1 : x.op < 16
 i0 : -9223372036854775808 ≤ x.int
 i1 : x.int ≤ 9223372036854775807
 nm : x.name.size ≤ 2000
 lb : x.label.size ≤ 2000
 ty : x.typ.size ≤ 2000
 tx : x.text.size ≤ 2000
theorem appendLine_any (B : Nat) (v : Value) (l : List UInt8) (x : Nd) (d : Nat) (w : World) (ho : BRow w B v l) (hl : l.length ≤ 16777216) (hd : d ≤ 16777216) (hB : B ≤ w.heap.size) (hB7 : 15 ≤ B) (ht : DTab w) (hx : Tame x) :
 Calls Tryz.prog 17 #[v, .agg (ndV x), .int .i64 (d : Int)] w fun e w' => ∃ v', e = .returned v' ∧ Hid (BRow w' B v' (l ++ (blk d ++ lnS x))) ∧ Hid (Kp B w w') := by
 obtain ⟨ls, hls⟩ : ∃ ls, l ++ (blk d ++ lnS x) = ls := ⟨_, rfl⟩
 have HLS : Hid (l ++ (blk d ++ lnS x) = ls) := hls
 rw [hls]
 clear hls
 obtain ⟨kd, ps, nm, lb, ty, op, it, tx, zz⟩ := x
 obtain ⟨k0, k1, p0, p1, o0, o1, i0, i1, t1, t2, t3, t4⟩ := hx
 simp only at k0 k1 p0 p1 o0 o1 i0 i1 t1 t2 t3 t4
 obtain ⟨k, rfl⟩ : ∃ k : Nat, kd = (k : Int) := ⟨kd.toNat, by omega⟩
 obtain ⟨o, rfl⟩ : ∃ o : Nat, op = (o : Int) := ⟨op.toNat, by omega⟩
 have hk31 : k < 31 := by omega
 have ho16 : o < 16 := by omega
 have HT : Hid (DTab w) := ht
 have HO : Hid (BRow w B v l) := ho
 obtain ⟨s, hs⟩ : ∃ s, (shp (k : Int)).1 = s := ⟨_, rfl⟩
 obtain ⟨ok, hok⟩ : ∃ ok, (shp (k : Int)).2 = ok := ⟨_, rfl⟩
 have HSH : Hid (∀ w' : World, Calls Tryz.prog 28 #[.int .i64 (k : Int)] w' fun e w'' => e = .returned (.tuple #[.agg (shpV s), .bool ok]) ∧ Below w'.heap.size w' w'') := fun w' => by
  rw [← hs, ← hok]; exact shapeOf_any _ w'
 obtain ⟨wd, hwd⟩ : ∃ wd, wds.getD k ByteArray.empty = wd := ⟨_, rfl⟩
 obtain ⟨sgn, hsgn⟩ : ∃ sgn, sgT.getD o ByteArray.empty = sgn := ⟨_, rfl⟩
 have HWD : Hid (∀ w' : World, Kp B w w' → w'.cell? ⟨1, k, none⟩ = some (.string wd) ∧ w'.cell? ⟨2, o, none⟩ = some (.string sgn) ∧ Tab10 w') := fun w' hb => by
  have := HT.out.on hb.1 hB7
  rw [← hwd, ← hsgn]; exact ⟨this.wd k hk31, this.sg o ho16, this.ten⟩
 have hwl : wd.size ≤ 100 := by
  rw [← hwd]
  have : ∀ k : Fin 31, (wds.getD k.val ByteArray.empty).size ≤ 100 := by decide +kernel
  exact this ⟨k, hk31⟩
 have hsl : sgn.size ≤ 100 := by
  rw [← hsgn]
  have : ∀ k : Fin 16, (sgT.getD k.val ByteArray.empty).size ≤ 100 := by decide +kernel
  exact this ⟨o, ho16⟩
 have HEND : Hid (l ++ (blk d ++ (wd.data.toList ++ pLb s ⟨k, ps, nm, lb, ty, o, it, tx, zz⟩ ++ pIt s ⟨k, ps, nm, lb, ty, o, it, tx, zz⟩ ++ pNm s ⟨k, ps, nm, lb, ty, o, it, tx, zz⟩ ++ pTy s ⟨k, ps, nm, lb, ty, o, it, tx, zz⟩ ++ pOp s ⟨k, ps, nm, lb, ty, o, it, tx, zz⟩ ++ pTx s ⟨k, ps, nm, lb, ty, o, it, tx, zz⟩ ++ [32, 64] ++ Lib.itoa ps ++ [10])) = ls) := by
  have h := HLS.out
  unfold lnS lnB wordS at h
  rw [hs] at h
  simp only [Int.toNat_natCast] at h
  rw [hwd] at h
  exact h
 have HPO : Hid (pOp s ⟨k, ps, nm, lb, ty, o, it, tx, zz⟩ = if 0 < s.lastOp then aw sgn.data.toList else []) := by
  show _ = _
  unfold pOp
  simp only [Int.toNat_natCast]
  rw [hsgn]
 clear hwd hsgn hs hok ho ht HLS
 obtain ⟨sl, sn, st, si, sm, sf, so, sg, sw, sx⟩ := s
 obtain ⟨w1, hw1⟩ : ∃ w1, w.alloc (.cells (ndV ⟨(k : Int), ps, nm, lb, ty, (o : Int), it, tx, zz⟩) 42) = w1 := ⟨_, rfl⟩
 have K1 : Hid (Kp B w w1) := by rw [← hw1]; exact (Kp.refl _ w).alloc hB _
 have z1 : w1.heap.size = w.heap.size + 1 := by rw [← hw1]; simp
 have b1 : Hid (w1.heap[w.heap.size]? = some (.cells (ndV ⟨(k : Int), ps, nm, lb, ty, (o : Int), it, tx, zz⟩) 42 (0, 0))) := by rw [← hw1]; exact heap_alloc_new _ _
 have HC : Hid (∀ w' (j : Nat) (u : Value), Kp B w1 w' → (ndV ⟨(k : Int), ps, nm, lb, ty, (o : Int), it, tx, zz⟩)[j]? = some u → w'.cell? ⟨w.heap.size, j, none⟩ = some u) := fun w' j u hb hu => by
  rw [hb.cell b1.out (by decide), ← hw1]; exact cell_new _ _ _ _ _ hu
 have O1 : Hid (BRow w1 B v l) := by rw [← hw1]; exact World.ownsRow.alloc HO.out _
 clear HO
 unfold ndV at hw1
 simp only [ndV]
 go_enter Tryz.func17, Tryz.ntmps17
 go_upto_region 1 with go_in
 clear hw1
 go_wp2
 go_loopw [0, 10] (fun u i wr => ∃ j : Nat, j ≤ d ∧ i = .int .i64 (j : Int) ∧ Hid (BRow wr B u (l ++ blk j)) ∧ Hid (Kp B w1 wr)) (fun _ i _ => d - (intOf i).toNat)
 case atStart => exact ⟨0, by omega, rfl, by show BRow _ _ _ (l ++ []); rw [List.append_nil]; exact O1.out, Kp.refl _ _⟩
 case round =>
  clear O1
  obtain ⟨j, hj, rfl, hO, hK⟩ := hrel
  have hjl : (l ++ blk j).length ≤ 50331648 := by rw [List.length_append, blk_len]; omega
  have hBr : B ≤ wr.heap.size := Nat.le_trans hB (Nat.le_trans (by omega) hK.out.size)
  by_cases hlt : j < d
  ·have j1 : (j : Int) < (d : Int) := by omega
   have j2 : IntKind.i64.wrap ((j : Int) + 1) = (j : Int) + 1 := by rw [IntKind.wrap_i64]; omega
   go_wp2_with (first
    | (at_builtin; refine wpList_appS (by rfl) _ _ (by rfl) B u0 (l ++ blk j) ⟨#[32, 32]⟩ (by rfl) (by rfl) hO (by show _ + 2 ≤ _; omega) hBr ?_; intro v2 w2 ho2 hk2)
    | go_in)
   refine ⟨⟨j + 1, by omega, by go_num, ?_, hK.out.trans hk2.out⟩, by simp [intOf]; omega⟩
   rw [blk_succ, ← List.append_assoc]
   exact ho2
  ·obtain rfl : j = d := by omega
   have j1 : ¬ (j : Int) < (j : Int) := by omega
   clear hlt hj
   have HEND2 : Hid (∀ r, l ++ blk j ++ r = l ++ (blk j ++ r)) := fun r => List.append_assoc _ _ _
   obtain ⟨l1, hl1⟩ : ∃ l1, l ++ blk j = l1 := ⟨_, rfl⟩
   have HL1 : Hid (l ++ blk j = l1) := hl1
   rw [hl1] at hO hjl
   clear hl1
   obtain ⟨q1, q2, q3⟩ := HWD.out wr (K1.out.trans hK.out)
   have HQ3 : Hid (Tab10 wr) := q3
   clear q3
   have c0 := HC.out wr 0 (.int .i64 (k : Int)) hK.out rfl
   have m1 : (0 : Int) ≤ (k : Int) := by omega
   have m2 : (k : Int) < 31 := by omega
   go_upto_region 6 with (first
    | (at_builtin; refine wpList_appS (by rfl) _ _ (by rfl) B u0 l1 wd (by rfl) (by rfl) hO (by omega) hBr ?_; intro v2 w2 ho2 hk2)
    | go_in)
   have K2 : Hid (Kp B w1 w2) := hK.out.trans hk2.out
   have hB2 : B ≤ w2.heap.size := Nat.le_trans hBr hk2.out.size
   clear hO hK hk2 c0 q1 q2 HQ3
   have c0 := HC.out w2 0 (.int .i64 (k : Int)) K2.out rfl
   obtain ⟨l2, hl2⟩ : ∃ l2, l1 ++ wd.data.toList = l2 := ⟨_, rfl⟩
   have HL2 : Hid (l1 ++ wd.data.toList = l2) := hl2
   have hl2l : l2.length ≤ 50341648 := by rw [← hl2, List.length_append, ← Lib.size_eq]; omega
   rw [hl2] at ho2
   clear hl2
   go_upto_if 29 with (first
    | (go_at_call 28; refine (HSH.out _).mono ?_; rintro e w3 ⟨rfl, hb3⟩; unfold shpV)
    | go_in)
   obtain ⟨wS, hwS⟩ : ∃ wS, w3.alloc (.cells (shpV ⟨sl, sn, st, si, sm, sf, so, sg, sw, sx⟩) 62) = wS := ⟨_, rfl⟩
   have bS : Hid (wS.heap[w3.heap.size]? = some (.cells (shpV ⟨sl, sn, st, si, sm, sf, so, sg, sw, sx⟩) 62 (0, 0))) := by rw [← hwS]; exact heap_alloc_new _ _
   have K3 : Kp B w2 w3 := Kp.of_below hb3 hB2
   have KS : Hid (Kp B w1 wS) := by rw [← hwS]; exact (K2.out.trans K3).alloc (Nat.le_trans hB2 K3.size) _
   have HSC : Hid (∀ w' (j : Nat) (u : Value), Kp B wS w' → (shpV ⟨sl, sn, st, si, sm, sf, so, sg, sw, sx⟩)[j]? = some u → w'.cell? ⟨w3.heap.size, j, none⟩ = some u) := fun w' j u hb hu => by
    rw [hb.cell bS.out (by decide), ← hwS]; exact cell_new _ _ _ _ _ hu
   have HNC : Hid (∀ w' (j : Nat) (u : Value), Kp B wS w' → (ndV ⟨(k : Int), ps, nm, lb, ty, (o : Int), it, tx, zz⟩)[j]? = some u → w'.cell? ⟨w.heap.size, j, none⟩ = some u) := fun w' j u hb hu => HC.out w' j u (KS.out.trans hb) hu
   have HTC : Hid (∀ w', Kp B wS w' → w'.cell? ⟨2, o, none⟩ = some (.string sgn) ∧ Tab10 w' ∧ B ≤ w'.heap.size) := fun w' hb => by
    obtain ⟨_, h2, h3⟩ := HWD.out w' (K1.out.trans (KS.out.trans hb))
    exact ⟨h2, h3, Nat.le_trans hB (Nat.le_trans (by omega) (KS.out.trans hb).size)⟩
   have OS : Hid (BRow wS B v2 l2) := by rw [← hwS]; exact World.ownsRow.alloc (ho2.out.stays hb3) _
   clear ho2 hb3 c0 HC HWD K2 K3 bS b1 HT HSH
   unfold shpV at hwS
   rw [hwS]
   clear hwS
   go_cut [0] (fun u wx => Hid (BRow wx B u (l2 ++ pLb ⟨sl, sn, st, si, sm, sf, so, sg, sw, sx⟩ ⟨k, ps, nm, lb, ty, o, it, tx, zz⟩)) ∧ Hid (Kp B wS wx))
   case first =>
    by_cases hz : sl = 0
    ·subst hz
     go_wp2
     go_meet
     case rel => exact ⟨by show BRow _ _ _ _; unfold pLb; rw [if_pos rfl, List.append_nil]; exact OS.out, Kp.refl _ _⟩
    ·have hzb : (sl == 0) = false := by rw [beq_eq_false_iff_ne]; exact hz
     have c3 := HNC.out wS 3 (.string lb) (Kp.refl _ _) rfl
     have e3 : pLb ⟨sl, sn, st, si, sm, sf, so, sg, sw, sx⟩ ⟨k, ps, nm, lb, ty, o, it, tx, zz⟩ = aw lb.data.toList := by unfold pLb; rw [if_neg hz]
     have E3 : Hid (pLb ⟨sl, sn, st, si, sm, sf, so, sg, sw, sx⟩ ⟨k, ps, nm, lb, ty, o, it, tx, zz⟩ = aw lb.data.toList) := e3
     clear e3
     go_wp2_with (first
      | (go_at_call 31; refine (appendWord_any B v2 l2 lb _ OS.out (by omega) (HTC.out _ (Kp.refl _ _)).2.2).mono ?_; rintro e w4 ⟨v4, rfl, ho4, hk4⟩)
      | go_in)
     go_meet
     case rel => exact ⟨by rw [E3.out]; exact ho4, hk4⟩
   case rest =>
    have pLb_len : (pLb ⟨sl, sn, st, si, sm, sf, so, sg, sw, sx⟩ ⟨k, ps, nm, lb, ty, o, it, tx, zz⟩).length ≤ 10000 := by
     unfold pLb; split
     ·simp
     ·have := aw_len lb.data.toList; rw [← Lib.size_eq] at this; show (aw lb.data.toList).length ≤ _; omega
    have pIt_len : (pIt ⟨sl, sn, st, si, sm, sf, so, sg, sw, sx⟩ ⟨k, ps, nm, lb, ty, o, it, tx, zz⟩).length ≤ 10000 := by
     unfold pIt; split
     ·have := Lib.itoa_length_le it i0 i1; show (Lib.itoa it).length + 1 ≤ _; omega
     ·simp
    have pNm_len : (pNm ⟨sl, sn, st, si, sm, sf, so, sg, sw, sx⟩ ⟨k, ps, nm, lb, ty, o, it, tx, zz⟩).length ≤ 10000 := by
     unfold pNm; split
     ·simp
     ·have := aw_len nm.data.toList; rw [← Lib.size_eq] at this; show (aw nm.data.toList).length ≤ _; omega
    have pTy_len : (pTy ⟨sl, sn, st, si, sm, sf, so, sg, sw, sx⟩ ⟨k, ps, nm, lb, ty, o, it, tx, zz⟩).length ≤ 10000 := by
     unfold pTy; split
     ·simp
     ·have := aw_len ty.data.toList; rw [← Lib.size_eq] at this; show (aw ty.data.toList).length ≤ _; omega
    have hqt : (Lx.qt tx.data.toList).length ≤ 8002 := by
     have := Lx.pcs_len tx.data.toList
     rw [← Lib.size_eq] at this
     unfold Lx.qt
     rw [List.length_cons, List.length_append]
     show (Lx.pcs tx.data.toList).length + 1 + 1 ≤ _
     omega
    have pOp_len : (pOp ⟨sl, sn, st, si, sm, sf, so, sg, sw, sx⟩ ⟨k, ps, nm, lb, ty, o, it, tx, zz⟩).length ≤ 10000 := by
     rw [HPO.out]; split
     ·have := aw_len sgn.data.toList; rw [← Lib.size_eq] at this; omega
     ·simp
    have pTx_len : (pTx ⟨sl, sn, st, si, sm, sf, so, sg, sw, sx⟩ ⟨k, ps, nm, lb, ty, o, it, tx, zz⟩).length ≤ 10000 := by
     unfold pTx; split
     ·have := aw_len (Lx.qt tx.data.toList); show (aw (Lx.qt tx.data.toList)).length ≤ _; omega
     ·simp
    obtain ⟨hoA, hkA⟩ := hcut
    obtain ⟨l3, hl3⟩ : ∃ l3, l2 ++ pLb ⟨sl, sn, st, si, sm, sf, so, sg, sw, sx⟩ ⟨k, ps, nm, lb, ty, o, it, tx, zz⟩ = l3 := ⟨_, rfl⟩
    have HL3 : Hid (l2 ++ pLb ⟨sl, sn, st, si, sm, sf, so, sg, sw, sx⟩ ⟨k, ps, nm, lb, ty, o, it, tx, zz⟩ = l3) := hl3
    have hl3l : l3.length ≤ 50341648 + 10000 := by rw [← hl3, List.length_append]; have := pLb_len; omega
    rw [hl3] at hoA
    clear hl3
    have d4 := HSC.out wc 4 (.int .i64 sm) hkA.out rfl
    go_upto_if 36 with fail
    go_cut [0] (fun u wx => Hid (BRow wx B u (l3 ++ pIt ⟨sl, sn, st, si, sm, sf, so, sg, sw, sx⟩ ⟨k, ps, nm, lb, ty, o, it, tx, zz⟩)) ∧ Hid (Kp B wS wx))
    case first =>
     by_cases hz : 0 < sm
     ·have E4 : Hid (pIt ⟨sl, sn, st, si, sm, sf, so, sg, sw, sx⟩ ⟨k, ps, nm, lb, ty, o, it, tx, zz⟩ = 32 :: Lib.itoa it) := by show _ = _; unfold pIt; rw [if_pos hz]
      have SV : Hid (∀ w' : World, Kp B wS w' → w'.cell? ⟨w.heap.size, 6, none⟩ = some (.int .i64 it) ∧ Kp B wS w') := fun w' hb => ⟨HNC.out w' 6 _ hb rfl, hb⟩
      have hoD : Hid (BRow wc.drew B u0 l3) := hoA.out
      have hcd : Kp B wS wc.drew := hkA.out.drew
      go_upto_region 10 with fail
      clear d4
      go_region_held3 (fun w' => w'.cell? ⟨w.heap.size, 6, none⟩ = some (.int .i64 it) ∧ Kp B wS w') (first | exact SV.out _ (by assumption) | exact SV.out _ (Kp.alloc (by assumption) (HTC.out _ (by assumption)).2.2 _))
       (first
       | (refine step_appC (by rfl) _ _ (by rfl) B u0 l3 32 (by rfl) (by rfl) hoD (by omega) (HTC.out _ hcd).2.2 ?_; intro v5 w5 ho5 hk5; replace hcd := hcd.trans hk5.out)
       | (go_at_call 32; refine (appInt_any B it v5 (l3 ++ [32]) _ i0 i1 ho5.out (HTC.out _ hcd).2.2 hB7 (by rw [List.length_append]; show l3.length + 1 + 21 ≤ _; omega) (HTC.out _ hcd).2.1).mono ?_; rintro e w6 ⟨v6, rfl, ho6, hk6⟩; replace hcd := hcd.trans hk6.out))
      all_goals
       go_wp2
       go_meet
       case rel => exact ⟨by rw [E4.out]; have := ho6.out; rw [List.append_assoc] at this; exact this, hcd⟩
     ·have E4 : Hid (pIt ⟨sl, sn, st, si, sm, sf, so, sg, sw, sx⟩ ⟨k, ps, nm, lb, ty, o, it, tx, zz⟩ = []) := by show _ = _; unfold pIt; rw [if_neg hz]
      go_wp2
      go_meet
      case rel => exact ⟨by rw [E4.out, List.append_nil]; exact hoA, hkA⟩
    case rest =>
     obtain ⟨hoA, hkA⟩ := hcut
     obtain ⟨l4, hl4⟩ : ∃ l4, l3 ++ pIt ⟨sl, sn, st, si, sm, sf, so, sg, sw, sx⟩ ⟨k, ps, nm, lb, ty, o, it, tx, zz⟩ = l4 := ⟨_, rfl⟩
     have HL4 : Hid (l3 ++ pIt ⟨sl, sn, st, si, sm, sf, so, sg, sw, sx⟩ ⟨k, ps, nm, lb, ty, o, it, tx, zz⟩ = l4) := hl4
     have hl4l : l4.length ≤ 50341648 + 20000 := by rw [← hl4, List.length_append]; have := pIt_len; omega
     rw [hl4] at hoA
     clear hl4
     have d4 := HSC.out wc 1 (.int .i64 sn) hkA.out rfl
     go_upto_if 45 with fail
     go_cut [0] (fun u wx => Hid (BRow wx B u (l4 ++ pNm ⟨sl, sn, st, si, sm, sf, so, sg, sw, sx⟩ ⟨k, ps, nm, lb, ty, o, it, tx, zz⟩)) ∧ Hid (Kp B wS wx))
     case first =>
      by_cases hz : sn = 0
      ·have E4 : Hid (pNm ⟨sl, sn, st, si, sm, sf, so, sg, sw, sx⟩ ⟨k, ps, nm, lb, ty, o, it, tx, zz⟩ = []) := by show _ = _; unfold pNm; rw [if_pos hz]
       subst hz
       go_wp2
       go_meet
       case rel => exact ⟨by rw [E4.out, List.append_nil]; exact hoA, hkA⟩
      ·have E4 : Hid (pNm ⟨sl, sn, st, si, sm, sf, so, sg, sw, sx⟩ ⟨k, ps, nm, lb, ty, o, it, tx, zz⟩ = aw nm.data.toList) := by show _ = _; unfold pNm; rw [if_neg hz]
       have hzb : (sn == 0) = false := by rw [beq_eq_false_iff_ne]; exact hz
       have c5 := HNC.out wc 2 (.string nm) hkA.out rfl
       go_wp2_with (first
        | (go_at_call 31; refine (appendWord_any B u0 l4 nm _ hoA.out (by omega) (HTC.out _ hkA.out).2.2).mono ?_; rintro e w4 ⟨v4, rfl, ho4, hk4⟩)
        | go_in)
       go_meet
       case rel => exact ⟨by rw [E4.out]; exact ho4, hkA.out.trans hk4.out⟩
     case rest =>
      obtain ⟨hoA, hkA⟩ := hcut
      obtain ⟨l5, hl5⟩ : ∃ l5, l4 ++ pNm ⟨sl, sn, st, si, sm, sf, so, sg, sw, sx⟩ ⟨k, ps, nm, lb, ty, o, it, tx, zz⟩ = l5 := ⟨_, rfl⟩
      have HL5 : Hid (l4 ++ pNm ⟨sl, sn, st, si, sm, sf, so, sg, sw, sx⟩ ⟨k, ps, nm, lb, ty, o, it, tx, zz⟩ = l5) := hl5
      have hl5l : l5.length ≤ 50341648 + 30000 := by rw [← hl5, List.length_append]; have := pNm_len; omega
      rw [hl5] at hoA
      clear hl5
      have d4 := HSC.out wc 2 (.int .i64 st) hkA.out rfl
      go_upto_if 52 with fail
      go_cut [0] (fun u wx => Hid (BRow wx B u (l5 ++ pTy ⟨sl, sn, st, si, sm, sf, so, sg, sw, sx⟩ ⟨k, ps, nm, lb, ty, o, it, tx, zz⟩)) ∧ Hid (Kp B wS wx))
      case first =>
       by_cases hz : st = 0
       ·have E4 : Hid (pTy ⟨sl, sn, st, si, sm, sf, so, sg, sw, sx⟩ ⟨k, ps, nm, lb, ty, o, it, tx, zz⟩ = []) := by show _ = _; unfold pTy; rw [if_pos hz]
        subst hz
        go_wp2
        go_meet
        case rel => exact ⟨by rw [E4.out, List.append_nil]; exact hoA, hkA⟩
       ·have E4 : Hid (pTy ⟨sl, sn, st, si, sm, sf, so, sg, sw, sx⟩ ⟨k, ps, nm, lb, ty, o, it, tx, zz⟩ = aw ty.data.toList) := by show _ = _; unfold pTy; rw [if_neg hz]
        have hzb : (st == 0) = false := by rw [beq_eq_false_iff_ne]; exact hz
        have c5 := HNC.out wc 4 (.string ty) hkA.out rfl
        go_wp2_with (first
         | (go_at_call 31; refine (appendWord_any B u0 l5 ty _ hoA.out (by omega) (HTC.out _ hkA.out).2.2).mono ?_; rintro e w4 ⟨v4, rfl, ho4, hk4⟩)
         | go_in)
        go_meet
        case rel => exact ⟨by rw [E4.out]; exact ho4, hkA.out.trans hk4.out⟩
      case rest =>
       obtain ⟨hoA, hkA⟩ := hcut
       obtain ⟨l6, hl6⟩ : ∃ l6, l5 ++ pTy ⟨sl, sn, st, si, sm, sf, so, sg, sw, sx⟩ ⟨k, ps, nm, lb, ty, o, it, tx, zz⟩ = l6 := ⟨_, rfl⟩
       have HL6 : Hid (l5 ++ pTy ⟨sl, sn, st, si, sm, sf, so, sg, sw, sx⟩ ⟨k, ps, nm, lb, ty, o, it, tx, zz⟩ = l6) := hl6
       have hl6l : l6.length ≤ 50341648 + 40000 := by rw [← hl6, List.length_append]; have := pTy_len; omega
       rw [hl6] at hoA
       clear hl6
       have d4 := HSC.out wc 6 (.int .i64 so) hkA.out rfl
       go_upto_if 59 with fail
       go_cut [0] (fun u wx => Hid (BRow wx B u (l6 ++ pOp ⟨sl, sn, st, si, sm, sf, so, sg, sw, sx⟩ ⟨k, ps, nm, lb, ty, o, it, tx, zz⟩)) ∧ Hid (Kp B wS wx))
       case first =>
        by_cases hz : 0 < so
        ·have E4 : Hid (pOp ⟨sl, sn, st, si, sm, sf, so, sg, sw, sx⟩ ⟨k, ps, nm, lb, ty, o, it, tx, zz⟩ = aw sgn.data.toList) := by show _ = _; rw [HPO.out]; rw [if_pos hz]
         have c5 := HNC.out wc 5 (.int .i64 (o : Int)) hkA.out rfl
         have c6 := (HTC.out wc hkA.out).1
         have m3 : (0 : Int) ≤ (o : Int) := by omega
         have m4 : (o : Int) < 16 := by omega
         go_wp2_with (first
          | (go_at_call 31; refine (appendWord_any B u0 l6 sgn _ hoA.out (by omega) (HTC.out _ hkA.out).2.2).mono ?_; rintro e w4 ⟨v4, rfl, ho4, hk4⟩)
          | go_in)
         go_meet
         case rel => exact ⟨by rw [E4.out]; exact ho4, hkA.out.trans hk4.out⟩
        ·have E4 : Hid (pOp ⟨sl, sn, st, si, sm, sf, so, sg, sw, sx⟩ ⟨k, ps, nm, lb, ty, o, it, tx, zz⟩ = []) := by show _ = _; rw [HPO.out]; rw [if_neg hz]
         go_wp2
         go_meet
         case rel => exact ⟨by rw [E4.out, List.append_nil]; exact hoA, hkA⟩
       case rest =>
        obtain ⟨hoA, hkA⟩ := hcut
        obtain ⟨l7, hl7⟩ : ∃ l7, l6 ++ pOp ⟨sl, sn, st, si, sm, sf, so, sg, sw, sx⟩ ⟨k, ps, nm, lb, ty, o, it, tx, zz⟩ = l7 := ⟨_, rfl⟩
        have HL7 : Hid (l6 ++ pOp ⟨sl, sn, st, si, sm, sf, so, sg, sw, sx⟩ ⟨k, ps, nm, lb, ty, o, it, tx, zz⟩ = l7) := hl7
        have hl7l : l7.length ≤ 50341648 + 50000 := by rw [← hl7, List.length_append]; have := pOp_len; omega
        rw [hl7] at hoA
        clear hl7
        have d4 := HSC.out wc 7 (.int .i64 sg) hkA.out rfl
        go_upto_if 68 with fail
        go_cut [0] (fun u wx => Hid (BRow wx B u (l7 ++ pTx ⟨sl, sn, st, si, sm, sf, so, sg, sw, sx⟩ ⟨k, ps, nm, lb, ty, o, it, tx, zz⟩)) ∧ Hid (Kp B wS wx))
        case first =>
         by_cases hz : 0 < sg
         ·have E4 : Hid (pTx ⟨sl, sn, st, si, sm, sf, so, sg, sw, sx⟩ ⟨k, ps, nm, lb, ty, o, it, tx, zz⟩ = aw (Lx.qt tx.data.toList)) := by show _ = _; unfold pTx; rw [if_pos hz]
          have c5 := HNC.out wc 7 (.string tx) hkA.out rfl
          obtain ⟨qb, hqb⟩ : ∃ qb : ByteArray, Hid (qb = ⟨(Lx.qt tx.data.toList).toArray⟩) := ⟨_, rfl⟩
          have hqs : qb.size ≤ 8002 := by rw [hqb.out]; show (Lx.qt tx.data.toList).toArray.size ≤ _; rw [List.size_toArray]; exact hqt
          go_wp2_with (first
           | (go_at_call 33; refine (Lx.quote_any tx qb _ (by omega) hqb).mono ?_; rintro e w4 ⟨rfl, hb4⟩)
           | (go_at_call 31; refine (appendWord_any B u0 l7 qb _ (hoA.out.stays hb4) (by omega) (Nat.le_trans (HTC.out _ hkA.out).2.2 hb4.size)).mono ?_; rintro e w5 ⟨v5, rfl, ho5, hk5⟩)
           | go_in)
          go_meet
          case rel => exact ⟨by rw [E4.out]; have := ho5.out; rw [hqb.out] at this; exact this, (hkA.out.trans (Kp.of_below hb4 (HTC.out _ hkA.out).2.2)).trans hk5.out⟩
         ·have E4 : Hid (pTx ⟨sl, sn, st, si, sm, sf, so, sg, sw, sx⟩ ⟨k, ps, nm, lb, ty, o, it, tx, zz⟩ = []) := by show _ = _; unfold pTx; rw [if_neg hz]
          go_wp2
          go_meet
          case rel => exact ⟨by rw [E4.out, List.append_nil]; exact hoA, hkA⟩
        case rest =>
         obtain ⟨hoA, hkA⟩ := hcut
         obtain ⟨l8, hl8⟩ : ∃ l8, l7 ++ pTx ⟨sl, sn, st, si, sm, sf, so, sg, sw, sx⟩ ⟨k, ps, nm, lb, ty, o, it, tx, zz⟩ = l8 := ⟨_, rfl⟩
         have HL8 : Hid (l7 ++ pTx ⟨sl, sn, st, si, sm, sf, so, sg, sw, sx⟩ ⟨k, ps, nm, lb, ty, o, it, tx, zz⟩ = l8) := hl8
         have hl8l : l8.length ≤ 50341648 + 60000 := by rw [← hl8, List.length_append]; have := pTx_len; omega
         rw [hl8] at hoA
         clear hl8
         have SV : Hid (∀ w' : World, Kp B wS w' → w'.cell? ⟨w.heap.size, 1, none⟩ = some (.int .i64 ps) ∧ Kp B wS w') := fun w' hb => ⟨HNC.out w' 1 _ hb rfl, hb⟩
         have hoD : Hid (BRow wc.drew B u0 l8) := hoA.out
         have hcd : Kp B wS wc.drew := hkA.out.drew
         go_upto_region 19 with fail
         go_region_held3 (fun w' => w'.cell? ⟨w.heap.size, 1, none⟩ = some (.int .i64 ps) ∧ Kp B wS w') (first | exact SV.out _ (by assumption))
          (first
          | (refine step_appS (by rfl) _ _ (by rfl) B u0 l8 ⟨#[32, 64]⟩ (by rfl) (by rfl) hoD (by show _ + 2 ≤ _; omega) (HTC.out _ hcd).2.2 ?_; intro v5 w5 ho5 hk5; replace hcd := hcd.trans hk5.out)
          | (go_at_call 32; refine (appInt_any B ps v5 (l8 ++ [32, 64]) _ p0 p1 ho5.out (HTC.out _ hcd).2.2 hB7 (by rw [List.length_append]; show l8.length + 2 + 21 ≤ _; omega) (HTC.out _ hcd).2.1).mono ?_; rintro e w6 ⟨v6, rfl, ho6, hk6⟩; replace hcd := hcd.trans hk6.out))
         have hil := Lib.itoa_length_le ps p0 p1
         have h9l : (l8 ++ [32, 64] ++ Lib.itoa ps).length ≤ 50441648 := by rw [List.length_append, List.length_append]; show l8.length + 2 + _ ≤ _; omega
         go_wp2_with (first
          | (at_builtin; refine wpList_appC (by rfl) _ _ (by rfl) B v6 (l8 ++ [32, 64] ++ Lib.itoa ps) 10 (by rfl) (by rfl) ho6 (by omega) (HTC.out _ hcd).2.2 ?_; intro v7 w7 ho7 hk7)
          | go_in)
         go_ret
         refine ⟨v7, rfl, ?_, K1.out.trans (KS.out.trans (hcd.trans hk7.out))⟩
         rw [← HEND.out]
         have := ho7.out
         rw [← HL8.out, ← HL7.out, ← HL6.out, ← HL5.out, ← HL4.out, ← HL3.out, ← HL2.out, ← HL1.out] at this
         simp only [List.append_assoc] at this ⊢
         exact this
end Go.Proofs.YtekgnogjfggnmaaGreatDoor
