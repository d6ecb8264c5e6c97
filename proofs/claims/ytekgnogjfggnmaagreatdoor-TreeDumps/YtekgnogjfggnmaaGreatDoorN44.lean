import Derived.Test.YtekgnogjfggnmaaGreatDoorN43
namespace Go.Proofs.YtekgnogjfggnmaaGreatDoor
open Go.RowKit
set_option maxRecDepth 100000
set_option maxHeartbeats 2000000
def joinW (ws : List (List UInt8)) : List UInt8 := ws.flatMap fun x => 32 :: x
theorem splF_join : ∀ (ws : List (List UInt8)) (a : List UInt8), (∀ c ∈ a, c ≠ 32) → (∀ x ∈ ws, ∀ c ∈ x, c ≠ 32) → splF (a ++ joinW ws) = a :: ws
 | [], a, ha, _ => by
  show splF (a ++ []) = _
  rw [List.append_nil]
  exact splF_one ha
 | x :: ws, a, ha, hw => by
  show splF (a ++ 32 :: (x ++ joinW ws)) = _
  rw [splF_cons ha, splF_join ws x (hw x (List.mem_cons_self ..)) (fun y hy => hw y (List.mem_cons_of_mem _ hy))]
theorem nil_ba {t : ByteArray} (h : t.data.toList = []) : t = ⟨#[]⟩ := by
 apply ByteArray.ext
 apply Array.toList_inj.1
 rw [h]
theorem none_or {t : List UInt8} (h : t ≠ [45]) : noneF (orS t) = t := by
 unfold orS
 by_cases e : t = []
 ·rw [if_pos e, e]; rfl
 ·rw [if_neg e]; unfold noneF; rw [if_neg h]
theorem or_ne {t : List UInt8} (h : t ≠ []) : orS t = t := by unfold orS; rw [if_neg h]
theorem or_no32 {t : List UInt8} (h : Seen t) : ∀ c ∈ orS t, c ≠ 32 := by
 unfold orS
 by_cases e : t = []
 ·rw [if_pos e]; intro c hc; rw [List.mem_singleton.1 hc]; decide
 ·rw [if_neg e]; exact h.no32
theorem fst_splF {a : List UInt8} {ws : List (List UInt8)} (ha : ∀ c ∈ a, c ≠ 32) : (fstW (a ++ joinW ws)).1 = a := by
 cases ws with
 | nil =>
  show (fstW (a ++ [])).1 = a
  rw [List.append_nil]
  exact fst_all ha
 | cons x ws => exact fst_pre rfl ha
structure SoundM (x : Nd) : Prop where
 s : Sound x
 nm : (shp x.kind).1.name = 2 → x.name.data.toList ≠ []
 ty : (shp x.kind).1.typ = 2 → x.typ.data.toList ≠ []
theorem soundM_of {L : List Nd} (ht : treeS nameS typeS L = true) (hr : Rng L) (hp : RngP L) {n : Nat} (hn : n < L.length) : SoundM (nd L n) := by
 have hf := (tree_parts ht).2 n hn
 unfold fit at hf
 simp only [Bool.and_eq_true] at hf
 obtain ⟨⟨h1, h2⟩, _⟩ := hf
 unfold fieldsS at h2
 simp only [Bool.and_eq_true, decide_eq_true_eq] at h2
 obtain ⟨⟨⟨⟨⟨⟨⟨⟨a1, a2⟩, a3⟩, a4⟩, a5⟩, a6⟩, a7⟩, a8⟩, a9⟩ := h2
 refine ⟨sound_of ht hr hp hn, fun e => ?_, fun e => ?_⟩
 ·rw [e, fitW2] at a3
  simp only [Bool.and_eq_true, decide_eq_true_eq] at a3
  exact ne_of_size a3.1
 ·rw [e, fitW2] at a4
  simp only [Bool.and_eq_true, decide_eq_true_eq] at a4
  exact ne_of_size a4.1
theorem op1_eq {o v : Nat} (h1 : 1 ≤ o) (h2 : o ≤ 2) (hv : Op1 (sgT.getD o ByteArray.empty).data.toList v) : v = o := by
 have : o = 1 ∨ o = 2 := by omega
 rcases this with rfl | rfl
 ·exact hv.2.2.2 (by decide)
 ·exact hv.2.2.1 (by decide)
theorem op2_eq {o v : Nat} (h1 : 3 ≤ o) (h2 : o ≤ 15) (hv : Op2 (sgT.getD o ByteArray.empty).data.toList v) : v = o := by
 obtain ⟨v1, v2, v3, v4⟩ := hv
 by_cases h : v < 15
 ·have := sg_uniq_all ⟨v, by omega⟩ ⟨o, by omega⟩ (Or.inl ⟨v1, h1⟩) (v3 h)
  exact congrArg Fin.val this
 ·by_cases ho : o = 15
  ·omega
  ·exact absurd rfl (v4 o h1 (by omega))
theorem lnJ_1 (ps : Int) (nm lb ty : ByteArray) (op it : Int) (tx : ByteArray) (zz : Int) : lnB (shp 1).1 ⟨1, ps, nm, lb, ty, op, it, tx, zz⟩ = [112, 114, 111, 103, 114, 97, 109] ++ joinW [] := by
 have hw : wordS ⟨1, ps, nm, lb, ty, op, it, tx, zz⟩ = [112, 114, 111, 103, 114, 97, 109] := rfl
 unfold lnB pLb pIt pNm pTy pOp pTx
 rw [hw, if_pos (by decide), if_neg (by decide), if_pos (by decide), if_pos (by decide), if_neg (by decide), if_neg (by decide)]
 simp [joinW]
theorem seem_1 (ps : Int) (nm lb ty : ByteArray) (op it : Int) (tx : ByteArray) (zz : Int) (x : Nd) (h : SoundM ⟨1, ps, nm, lb, ty, op, it, tx, zz⟩) (hx : SeemR (lnB (shp 1).1 ⟨1, ps, nm, lb, ty, op, it, tx, zz⟩) x) : x = ⟨1, 0, nm, lb, ty, op, it, tx, 0⟩ := by
 obtain ⟨⟨kn, p0, p1, hlb, hnm, hty, i0, i1, i2, hop, o0, htx, t0⟩, mnm, mty⟩ := h
 simp only at kn p0 p1 hlb hnm hty i0 i1 i2 hop o0 htx t0 mnm mty
 rw [lnJ_1] at hx
 obtain ⟨k, hk, hx⟩ := hx
 have hwd : ∀ c ∈ ([112, 114, 111, 103, 114, 97, 109] : List UInt8), c ≠ 32 := by decide
 rw [fst_splF hwd] at hk
 obtain rfl := hk.known (j := 1) (by omega) kn (by decide)
 rw [splF_join _ _ hwd (fun x hx => by simp at hx)] at hx
 unfold SeemK at hx
 rw [if_neg (by decide), if_neg (by decide), if_neg (by decide), if_neg (by decide), if_neg (by decide), if_neg (by decide), if_neg (by decide), if_neg (by decide), if_neg (by decide), if_neg (by decide)] at hx
 obtain rfl := nil_ba (hlb.2.2 (by decide))
 obtain rfl := i2 (by decide)
 obtain rfl := nil_ba (hnm.2.2 (by decide))
 obtain rfl := nil_ba (hty.2.2 (by decide))
 obtain rfl := o0 (by decide)
 obtain rfl := nil_ba (t0 (by decide))
 rw [hx]
 rfl
theorem lnJ_2 (ps : Int) (nm lb ty : ByteArray) (op it : Int) (tx : ByteArray) (zz : Int) : lnB (shp 2).1 ⟨2, ps, nm, lb, ty, op, it, tx, zz⟩ = [102, 110] ++ joinW [orS nm.data.toList, orS ty.data.toList] := by
 have hw : wordS ⟨2, ps, nm, lb, ty, op, it, tx, zz⟩ = [102, 110] := rfl
 unfold lnB pLb pIt pNm pTy pOp pTx
 rw [hw, if_pos (by decide), if_neg (by decide), if_neg (by decide), if_neg (by decide), if_neg (by decide), if_neg (by decide)]
 simp [joinW, aw]
theorem seem_2 (ps : Int) (nm lb ty : ByteArray) (op it : Int) (tx : ByteArray) (zz : Int) (x : Nd) (h : SoundM ⟨2, ps, nm, lb, ty, op, it, tx, zz⟩) (hx : SeemR (lnB (shp 2).1 ⟨2, ps, nm, lb, ty, op, it, tx, zz⟩) x) : x = ⟨2, 0, nm, lb, ty, op, it, tx, 0⟩ := by
 obtain ⟨⟨kn, p0, p1, hlb, hnm, hty, i0, i1, i2, hop, o0, htx, t0⟩, mnm, mty⟩ := h
 simp only at kn p0 p1 hlb hnm hty i0 i1 i2 hop o0 htx t0 mnm mty
 rw [lnJ_2] at hx
 obtain ⟨k, hk, hx⟩ := hx
 have hwd : ∀ c ∈ ([102, 110] : List UInt8), c ≠ 32 := by decide
 rw [fst_splF hwd] at hk
 obtain rfl := hk.known (j := 2) (by omega) kn (by decide)
 rw [splF_join _ _ hwd (fun x hx => by rcases List.mem_cons.1 hx with rfl | hx; (exact or_no32 hnm.1); rw [List.mem_singleton.1 hx]; exact or_no32 hty.1)] at hx
 unfold SeemK at hx
 rw [if_pos (by decide)] at hx
 obtain rfl := nil_ba (hlb.2.2 (by decide))
 obtain rfl := i2 (by decide)
 obtain rfl := o0 (by decide)
 obtain rfl := nil_ba (t0 (by decide))
 simp only [List.getD_cons_succ, List.getD_cons_zero] at hx
 rw [or_ne (mnm (by decide)), none_or hty.2.1] at hx
 simp only [bk_of] at hx
 rw [hx]
 rfl
theorem lnJ_3 (ps : Int) (nm lb ty : ByteArray) (op it : Int) (tx : ByteArray) (zz : Int) : lnB (shp 3).1 ⟨3, ps, nm, lb, ty, op, it, tx, zz⟩ = [112, 97, 114, 97, 109] ++ joinW [orS nm.data.toList, orS ty.data.toList] := by
 have hw : wordS ⟨3, ps, nm, lb, ty, op, it, tx, zz⟩ = [112, 97, 114, 97, 109] := rfl
 unfold lnB pLb pIt pNm pTy pOp pTx
 rw [hw, if_pos (by decide), if_neg (by decide), if_neg (by decide), if_neg (by decide), if_neg (by decide), if_neg (by decide)]
 simp [joinW, aw]
theorem seem_3 (ps : Int) (nm lb ty : ByteArray) (op it : Int) (tx : ByteArray) (zz : Int) (x : Nd) (h : SoundM ⟨3, ps, nm, lb, ty, op, it, tx, zz⟩) (hx : SeemR (lnB (shp 3).1 ⟨3, ps, nm, lb, ty, op, it, tx, zz⟩) x) : x = ⟨3, 0, nm, lb, ty, op, it, tx, 0⟩ := by
 obtain ⟨⟨kn, p0, p1, hlb, hnm, hty, i0, i1, i2, hop, o0, htx, t0⟩, mnm, mty⟩ := h
 simp only at kn p0 p1 hlb hnm hty i0 i1 i2 hop o0 htx t0 mnm mty
 rw [lnJ_3] at hx
 obtain ⟨k, hk, hx⟩ := hx
 have hwd : ∀ c ∈ ([112, 97, 114, 97, 109] : List UInt8), c ≠ 32 := by decide
 rw [fst_splF hwd] at hk
 obtain rfl := hk.known (j := 3) (by omega) kn (by decide)
 rw [splF_join _ _ hwd (fun x hx => by rcases List.mem_cons.1 hx with rfl | hx; (exact or_no32 hnm.1); rw [List.mem_singleton.1 hx]; exact or_no32 hty.1)] at hx
 unfold SeemK at hx
 rw [if_pos (by decide)] at hx
 obtain rfl := nil_ba (hlb.2.2 (by decide))
 obtain rfl := i2 (by decide)
 obtain rfl := o0 (by decide)
 obtain rfl := nil_ba (t0 (by decide))
 simp only [List.getD_cons_succ, List.getD_cons_zero] at hx
 rw [or_ne (mnm (by decide)), none_or hty.2.1] at hx
 simp only [bk_of] at hx
 rw [hx]
 rfl
theorem lnJ_4 (ps : Int) (nm lb ty : ByteArray) (op it : Int) (tx : ByteArray) (zz : Int) : lnB (shp 4).1 ⟨4, ps, nm, lb, ty, op, it, tx, zz⟩ = [98, 108, 111, 99, 107] ++ joinW [] := by
 have hw : wordS ⟨4, ps, nm, lb, ty, op, it, tx, zz⟩ = [98, 108, 111, 99, 107] := rfl
 unfold lnB pLb pIt pNm pTy pOp pTx
 rw [hw, if_pos (by decide), if_neg (by decide), if_pos (by decide), if_pos (by decide), if_neg (by decide), if_neg (by decide)]
 simp [joinW]
theorem seem_4 (ps : Int) (nm lb ty : ByteArray) (op it : Int) (tx : ByteArray) (zz : Int) (x : Nd) (h : SoundM ⟨4, ps, nm, lb, ty, op, it, tx, zz⟩) (hx : SeemR (lnB (shp 4).1 ⟨4, ps, nm, lb, ty, op, it, tx, zz⟩) x) : x = ⟨4, 0, nm, lb, ty, op, it, tx, 0⟩ := by
 obtain ⟨⟨kn, p0, p1, hlb, hnm, hty, i0, i1, i2, hop, o0, htx, t0⟩, mnm, mty⟩ := h
 simp only at kn p0 p1 hlb hnm hty i0 i1 i2 hop o0 htx t0 mnm mty
 rw [lnJ_4] at hx
 obtain ⟨k, hk, hx⟩ := hx
 have hwd : ∀ c ∈ ([98, 108, 111, 99, 107] : List UInt8), c ≠ 32 := by decide
 rw [fst_splF hwd] at hk
 obtain rfl := hk.known (j := 4) (by omega) kn (by decide)
 rw [splF_join _ _ hwd (fun x hx => by simp at hx)] at hx
 unfold SeemK at hx
 rw [if_neg (by decide), if_neg (by decide), if_neg (by decide), if_neg (by decide), if_neg (by decide), if_neg (by decide), if_neg (by decide), if_neg (by decide), if_neg (by decide), if_neg (by decide)] at hx
 obtain rfl := nil_ba (hlb.2.2 (by decide))
 obtain rfl := i2 (by decide)
 obtain rfl := nil_ba (hnm.2.2 (by decide))
 obtain rfl := nil_ba (hty.2.2 (by decide))
 obtain rfl := o0 (by decide)
 obtain rfl := nil_ba (t0 (by decide))
 rw [hx]
 rfl
theorem lnJ_5 (ps : Int) (nm lb ty : ByteArray) (op it : Int) (tx : ByteArray) (zz : Int) : lnB (shp 5).1 ⟨5, ps, nm, lb, ty, op, it, tx, zz⟩ = [118, 97, 114] ++ joinW [orS nm.data.toList, orS ty.data.toList] := by
 have hw : wordS ⟨5, ps, nm, lb, ty, op, it, tx, zz⟩ = [118, 97, 114] := rfl
 unfold lnB pLb pIt pNm pTy pOp pTx
 rw [hw, if_pos (by decide), if_neg (by decide), if_neg (by decide), if_neg (by decide), if_neg (by decide), if_neg (by decide)]
 simp [joinW, aw]
theorem seem_5 (ps : Int) (nm lb ty : ByteArray) (op it : Int) (tx : ByteArray) (zz : Int) (x : Nd) (h : SoundM ⟨5, ps, nm, lb, ty, op, it, tx, zz⟩) (hx : SeemR (lnB (shp 5).1 ⟨5, ps, nm, lb, ty, op, it, tx, zz⟩) x) : x = ⟨5, 0, nm, lb, ty, op, it, tx, 0⟩ := by
 obtain ⟨⟨kn, p0, p1, hlb, hnm, hty, i0, i1, i2, hop, o0, htx, t0⟩, mnm, mty⟩ := h
 simp only at kn p0 p1 hlb hnm hty i0 i1 i2 hop o0 htx t0 mnm mty
 rw [lnJ_5] at hx
 obtain ⟨k, hk, hx⟩ := hx
 have hwd : ∀ c ∈ ([118, 97, 114] : List UInt8), c ≠ 32 := by decide
 rw [fst_splF hwd] at hk
 obtain rfl := hk.known (j := 5) (by omega) kn (by decide)
 rw [splF_join _ _ hwd (fun x hx => by rcases List.mem_cons.1 hx with rfl | hx; (exact or_no32 hnm.1); rw [List.mem_singleton.1 hx]; exact or_no32 hty.1)] at hx
 unfold SeemK at hx
 rw [if_pos (by decide)] at hx
 obtain rfl := nil_ba (hlb.2.2 (by decide))
 obtain rfl := i2 (by decide)
 obtain rfl := o0 (by decide)
 obtain rfl := nil_ba (t0 (by decide))
 simp only [List.getD_cons_succ, List.getD_cons_zero] at hx
 rw [or_ne (mnm (by decide)), none_or hty.2.1] at hx
 simp only [bk_of] at hx
 rw [hx]
 rfl
theorem lnJ_6 (ps : Int) (nm lb ty : ByteArray) (op it : Int) (tx : ByteArray) (zz : Int) : lnB (shp 6).1 ⟨6, ps, nm, lb, ty, op, it, tx, zz⟩ = [97, 115, 115, 105, 103, 110] ++ joinW [] := by
 have hw : wordS ⟨6, ps, nm, lb, ty, op, it, tx, zz⟩ = [97, 115, 115, 105, 103, 110] := rfl
 unfold lnB pLb pIt pNm pTy pOp pTx
 rw [hw, if_pos (by decide), if_neg (by decide), if_pos (by decide), if_pos (by decide), if_neg (by decide), if_neg (by decide)]
 simp [joinW]
theorem seem_6 (ps : Int) (nm lb ty : ByteArray) (op it : Int) (tx : ByteArray) (zz : Int) (x : Nd) (h : SoundM ⟨6, ps, nm, lb, ty, op, it, tx, zz⟩) (hx : SeemR (lnB (shp 6).1 ⟨6, ps, nm, lb, ty, op, it, tx, zz⟩) x) : x = ⟨6, 0, nm, lb, ty, op, it, tx, 0⟩ := by
 obtain ⟨⟨kn, p0, p1, hlb, hnm, hty, i0, i1, i2, hop, o0, htx, t0⟩, mnm, mty⟩ := h
 simp only at kn p0 p1 hlb hnm hty i0 i1 i2 hop o0 htx t0 mnm mty
 rw [lnJ_6] at hx
 obtain ⟨k, hk, hx⟩ := hx
 have hwd : ∀ c ∈ ([97, 115, 115, 105, 103, 110] : List UInt8), c ≠ 32 := by decide
 rw [fst_splF hwd] at hk
 obtain rfl := hk.known (j := 6) (by omega) kn (by decide)
 rw [splF_join _ _ hwd (fun x hx => by simp at hx)] at hx
 unfold SeemK at hx
 rw [if_neg (by decide), if_neg (by decide), if_neg (by decide), if_neg (by decide), if_neg (by decide), if_neg (by decide), if_neg (by decide), if_neg (by decide), if_neg (by decide), if_neg (by decide)] at hx
 obtain rfl := nil_ba (hlb.2.2 (by decide))
 obtain rfl := i2 (by decide)
 obtain rfl := nil_ba (hnm.2.2 (by decide))
 obtain rfl := nil_ba (hty.2.2 (by decide))
 obtain rfl := o0 (by decide)
 obtain rfl := nil_ba (t0 (by decide))
 rw [hx]
 rfl
theorem lnJ_7 (ps : Int) (nm lb ty : ByteArray) (op it : Int) (tx : ByteArray) (zz : Int) : lnB (shp 7).1 ⟨7, ps, nm, lb, ty, op, it, tx, zz⟩ = [105, 102] ++ joinW [] := by
 have hw : wordS ⟨7, ps, nm, lb, ty, op, it, tx, zz⟩ = [105, 102] := rfl
 unfold lnB pLb pIt pNm pTy pOp pTx
 rw [hw, if_pos (by decide), if_neg (by decide), if_pos (by decide), if_pos (by decide), if_neg (by decide), if_neg (by decide)]
 simp [joinW]
theorem seem_7 (ps : Int) (nm lb ty : ByteArray) (op it : Int) (tx : ByteArray) (zz : Int) (x : Nd) (h : SoundM ⟨7, ps, nm, lb, ty, op, it, tx, zz⟩) (hx : SeemR (lnB (shp 7).1 ⟨7, ps, nm, lb, ty, op, it, tx, zz⟩) x) : x = ⟨7, 0, nm, lb, ty, op, it, tx, 0⟩ := by
 obtain ⟨⟨kn, p0, p1, hlb, hnm, hty, i0, i1, i2, hop, o0, htx, t0⟩, mnm, mty⟩ := h
 simp only at kn p0 p1 hlb hnm hty i0 i1 i2 hop o0 htx t0 mnm mty
 rw [lnJ_7] at hx
 obtain ⟨k, hk, hx⟩ := hx
 have hwd : ∀ c ∈ ([105, 102] : List UInt8), c ≠ 32 := by decide
 rw [fst_splF hwd] at hk
 obtain rfl := hk.known (j := 7) (by omega) kn (by decide)
 rw [splF_join _ _ hwd (fun x hx => by simp at hx)] at hx
 unfold SeemK at hx
 rw [if_neg (by decide), if_neg (by decide), if_neg (by decide), if_neg (by decide), if_neg (by decide), if_neg (by decide), if_neg (by decide), if_neg (by decide), if_neg (by decide), if_neg (by decide)] at hx
 obtain rfl := nil_ba (hlb.2.2 (by decide))
 obtain rfl := i2 (by decide)
 obtain rfl := nil_ba (hnm.2.2 (by decide))
 obtain rfl := nil_ba (hty.2.2 (by decide))
 obtain rfl := o0 (by decide)
 obtain rfl := nil_ba (t0 (by decide))
 rw [hx]
 rfl
theorem lnJ_8 (ps : Int) (nm lb ty : ByteArray) (op it : Int) (tx : ByteArray) (zz : Int) : lnB (shp 8).1 ⟨8, ps, nm, lb, ty, op, it, tx, zz⟩ = [119, 104, 105, 108, 101] ++ joinW [orS lb.data.toList] := by
 have hw : wordS ⟨8, ps, nm, lb, ty, op, it, tx, zz⟩ = [119, 104, 105, 108, 101] := rfl
 unfold lnB pLb pIt pNm pTy pOp pTx
 rw [hw, if_neg (by decide), if_neg (by decide), if_pos (by decide), if_pos (by decide), if_neg (by decide), if_neg (by decide)]
 simp [joinW, aw]
theorem seem_8 (ps : Int) (nm lb ty : ByteArray) (op it : Int) (tx : ByteArray) (zz : Int) (x : Nd) (h : SoundM ⟨8, ps, nm, lb, ty, op, it, tx, zz⟩) (hx : SeemR (lnB (shp 8).1 ⟨8, ps, nm, lb, ty, op, it, tx, zz⟩) x) : x = ⟨8, 0, nm, lb, ty, op, it, tx, 0⟩ := by
 obtain ⟨⟨kn, p0, p1, hlb, hnm, hty, i0, i1, i2, hop, o0, htx, t0⟩, mnm, mty⟩ := h
 simp only at kn p0 p1 hlb hnm hty i0 i1 i2 hop o0 htx t0 mnm mty
 rw [lnJ_8] at hx
 obtain ⟨k, hk, hx⟩ := hx
 have hwd : ∀ c ∈ ([119, 104, 105, 108, 101] : List UInt8), c ≠ 32 := by decide
 rw [fst_splF hwd] at hk
 obtain rfl := hk.known (j := 8) (by omega) kn (by decide)
 rw [splF_join _ _ hwd (fun x hx => by rw [List.mem_singleton.1 hx]; exact or_no32 hlb.1)] at hx
 unfold SeemK at hx
 rw [if_neg (by decide), if_pos (by decide)] at hx
 obtain rfl := i2 (by decide)
 obtain rfl := nil_ba (hnm.2.2 (by decide))
 obtain rfl := nil_ba (hty.2.2 (by decide))
 obtain rfl := o0 (by decide)
 obtain rfl := nil_ba (t0 (by decide))
 simp only [List.getD_cons_succ, List.getD_cons_zero] at hx
 rw [none_or hlb.2.1] at hx
 simp only [bk_of] at hx
 rw [hx]
 rfl
theorem lnJ_9 (ps : Int) (nm lb ty : ByteArray) (op it : Int) (tx : ByteArray) (zz : Int) : lnB (shp 9).1 ⟨9, ps, nm, lb, ty, op, it, tx, zz⟩ = [102, 111, 114] ++ joinW [orS lb.data.toList, orS nm.data.toList] := by
 have hw : wordS ⟨9, ps, nm, lb, ty, op, it, tx, zz⟩ = [102, 111, 114] := rfl
 unfold lnB pLb pIt pNm pTy pOp pTx
 rw [hw, if_neg (by decide), if_neg (by decide), if_neg (by decide), if_pos (by decide), if_neg (by decide), if_neg (by decide)]
 simp [joinW, aw]
theorem seem_9 (ps : Int) (nm lb ty : ByteArray) (op it : Int) (tx : ByteArray) (zz : Int) (x : Nd) (h : SoundM ⟨9, ps, nm, lb, ty, op, it, tx, zz⟩) (hx : SeemR (lnB (shp 9).1 ⟨9, ps, nm, lb, ty, op, it, tx, zz⟩) x) : x = ⟨9, 0, nm, lb, ty, op, it, tx, 0⟩ := by
 obtain ⟨⟨kn, p0, p1, hlb, hnm, hty, i0, i1, i2, hop, o0, htx, t0⟩, mnm, mty⟩ := h
 simp only at kn p0 p1 hlb hnm hty i0 i1 i2 hop o0 htx t0 mnm mty
 rw [lnJ_9] at hx
 obtain ⟨k, hk, hx⟩ := hx
 have hwd : ∀ c ∈ ([102, 111, 114] : List UInt8), c ≠ 32 := by decide
 rw [fst_splF hwd] at hk
 obtain rfl := hk.known (j := 9) (by omega) kn (by decide)
 rw [splF_join _ _ hwd (fun x hx => by rcases List.mem_cons.1 hx with rfl | hx; (exact or_no32 hlb.1); rw [List.mem_singleton.1 hx]; exact or_no32 hnm.1)] at hx
 unfold SeemK at hx
 rw [if_neg (by decide), if_neg (by decide), if_pos (by decide)] at hx
 obtain rfl := i2 (by decide)
 obtain rfl := nil_ba (hty.2.2 (by decide))
 obtain rfl := o0 (by decide)
 obtain rfl := nil_ba (t0 (by decide))
 simp only [List.getD_cons_succ, List.getD_cons_zero] at hx
 rw [none_or hlb.2.1, or_ne (mnm (by decide))] at hx
 simp only [bk_of] at hx
 rw [hx]
 rfl
theorem lnJ_10 (ps : Int) (nm lb ty : ByteArray) (op it : Int) (tx : ByteArray) (zz : Int) : lnB (shp 10).1 ⟨10, ps, nm, lb, ty, op, it, tx, zz⟩ = [98, 114, 101, 97, 107] ++ joinW [orS lb.data.toList] := by
 have hw : wordS ⟨10, ps, nm, lb, ty, op, it, tx, zz⟩ = [98, 114, 101, 97, 107] := rfl
 unfold lnB pLb pIt pNm pTy pOp pTx
 rw [hw, if_neg (by decide), if_neg (by decide), if_pos (by decide), if_pos (by decide), if_neg (by decide), if_neg (by decide)]
 simp [joinW, aw]
theorem seem_10 (ps : Int) (nm lb ty : ByteArray) (op it : Int) (tx : ByteArray) (zz : Int) (x : Nd) (h : SoundM ⟨10, ps, nm, lb, ty, op, it, tx, zz⟩) (hx : SeemR (lnB (shp 10).1 ⟨10, ps, nm, lb, ty, op, it, tx, zz⟩) x) : x = ⟨10, 0, nm, lb, ty, op, it, tx, 0⟩ := by
 obtain ⟨⟨kn, p0, p1, hlb, hnm, hty, i0, i1, i2, hop, o0, htx, t0⟩, mnm, mty⟩ := h
 simp only at kn p0 p1 hlb hnm hty i0 i1 i2 hop o0 htx t0 mnm mty
 rw [lnJ_10] at hx
 obtain ⟨k, hk, hx⟩ := hx
 have hwd : ∀ c ∈ ([98, 114, 101, 97, 107] : List UInt8), c ≠ 32 := by decide
 rw [fst_splF hwd] at hk
 obtain rfl := hk.known (j := 10) (by omega) kn (by decide)
 rw [splF_join _ _ hwd (fun x hx => by rw [List.mem_singleton.1 hx]; exact or_no32 hlb.1)] at hx
 unfold SeemK at hx
 rw [if_neg (by decide), if_pos (by decide)] at hx
 obtain rfl := i2 (by decide)
 obtain rfl := nil_ba (hnm.2.2 (by decide))
 obtain rfl := nil_ba (hty.2.2 (by decide))
 obtain rfl := o0 (by decide)
 obtain rfl := nil_ba (t0 (by decide))
 simp only [List.getD_cons_succ, List.getD_cons_zero] at hx
 rw [none_or hlb.2.1] at hx
 simp only [bk_of] at hx
 rw [hx]
 rfl
theorem lnJ_11 (ps : Int) (nm lb ty : ByteArray) (op it : Int) (tx : ByteArray) (zz : Int) : lnB (shp 11).1 ⟨11, ps, nm, lb, ty, op, it, tx, zz⟩ = [99, 111, 110, 116, 105, 110, 117, 101] ++ joinW [orS lb.data.toList] := by
 have hw : wordS ⟨11, ps, nm, lb, ty, op, it, tx, zz⟩ = [99, 111, 110, 116, 105, 110, 117, 101] := rfl
 unfold lnB pLb pIt pNm pTy pOp pTx
 rw [hw, if_neg (by decide), if_neg (by decide), if_pos (by decide), if_pos (by decide), if_neg (by decide), if_neg (by decide)]
 simp [joinW, aw]
theorem seem_11 (ps : Int) (nm lb ty : ByteArray) (op it : Int) (tx : ByteArray) (zz : Int) (x : Nd) (h : SoundM ⟨11, ps, nm, lb, ty, op, it, tx, zz⟩) (hx : SeemR (lnB (shp 11).1 ⟨11, ps, nm, lb, ty, op, it, tx, zz⟩) x) : x = ⟨11, 0, nm, lb, ty, op, it, tx, 0⟩ := by
 obtain ⟨⟨kn, p0, p1, hlb, hnm, hty, i0, i1, i2, hop, o0, htx, t0⟩, mnm, mty⟩ := h
 simp only at kn p0 p1 hlb hnm hty i0 i1 i2 hop o0 htx t0 mnm mty
 rw [lnJ_11] at hx
 obtain ⟨k, hk, hx⟩ := hx
 have hwd : ∀ c ∈ ([99, 111, 110, 116, 105, 110, 117, 101] : List UInt8), c ≠ 32 := by decide
 rw [fst_splF hwd] at hk
 obtain rfl := hk.known (j := 11) (by omega) kn (by decide)
 rw [splF_join _ _ hwd (fun x hx => by rw [List.mem_singleton.1 hx]; exact or_no32 hlb.1)] at hx
 unfold SeemK at hx
 rw [if_neg (by decide), if_pos (by decide)] at hx
 obtain rfl := i2 (by decide)
 obtain rfl := nil_ba (hnm.2.2 (by decide))
 obtain rfl := nil_ba (hty.2.2 (by decide))
 obtain rfl := o0 (by decide)
 obtain rfl := nil_ba (t0 (by decide))
 simp only [List.getD_cons_succ, List.getD_cons_zero] at hx
 rw [none_or hlb.2.1] at hx
 simp only [bk_of] at hx
 rw [hx]
 rfl
theorem lnJ_12 (ps : Int) (nm lb ty : ByteArray) (op it : Int) (tx : ByteArray) (zz : Int) : lnB (shp 12).1 ⟨12, ps, nm, lb, ty, op, it, tx, zz⟩ = [114, 101, 116, 117, 114, 110] ++ joinW [Lib.itoa it] := by
 have hw : wordS ⟨12, ps, nm, lb, ty, op, it, tx, zz⟩ = [114, 101, 116, 117, 114, 110] := rfl
 unfold lnB pLb pIt pNm pTy pOp pTx
 rw [hw, if_pos (by decide), if_pos (by decide), if_pos (by decide), if_pos (by decide), if_neg (by decide), if_neg (by decide)]
 simp [joinW]
theorem seem_12 (ps : Int) (nm lb ty : ByteArray) (op it : Int) (tx : ByteArray) (zz : Int) (x : Nd) (h : SoundM ⟨12, ps, nm, lb, ty, op, it, tx, zz⟩) (hx : SeemR (lnB (shp 12).1 ⟨12, ps, nm, lb, ty, op, it, tx, zz⟩) x) : x = ⟨12, 0, nm, lb, ty, op, it, tx, 0⟩ := by
 obtain ⟨⟨kn, p0, p1, hlb, hnm, hty, i0, i1, i2, hop, o0, htx, t0⟩, mnm, mty⟩ := h
 simp only at kn p0 p1 hlb hnm hty i0 i1 i2 hop o0 htx t0 mnm mty
 rw [lnJ_12] at hx
 obtain ⟨k, hk, hx⟩ := hx
 have hwd : ∀ c ∈ ([114, 101, 116, 117, 114, 110] : List UInt8), c ≠ 32 := by decide
 rw [fst_splF hwd] at hk
 obtain rfl := hk.known (j := 12) (by omega) kn (by decide)
 rw [splF_join _ _ hwd (fun x hx => by rw [List.mem_singleton.1 hx]; exact itoa_no32 i0)] at hx
 unfold SeemK at hx
 rw [if_neg (by decide), if_neg (by decide), if_neg (by decide), if_pos (by decide)] at hx
 obtain rfl := nil_ba (hlb.2.2 (by decide))
 obtain rfl := nil_ba (hnm.2.2 (by decide))
 obtain rfl := nil_ba (hty.2.2 (by decide))
 obtain rfl := o0 (by decide)
 obtain rfl := nil_ba (t0 (by decide))
 simp only [List.getD_cons_succ, List.getD_cons_zero] at hx
 rw [numF_itoa i0 i1] at hx
 rw [hx]
 rfl
theorem lnJ_13 (ps : Int) (nm lb ty : ByteArray) (op it : Int) (tx : ByteArray) (zz : Int) : lnB (shp 13).1 ⟨13, ps, nm, lb, ty, op, it, tx, zz⟩ = [112, 114, 105, 110, 116] ++ joinW [] := by
 have hw : wordS ⟨13, ps, nm, lb, ty, op, it, tx, zz⟩ = [112, 114, 105, 110, 116] := rfl
 unfold lnB pLb pIt pNm pTy pOp pTx
 rw [hw, if_pos (by decide), if_neg (by decide), if_pos (by decide), if_pos (by decide), if_neg (by decide), if_neg (by decide)]
 simp [joinW]
theorem seem_13 (ps : Int) (nm lb ty : ByteArray) (op it : Int) (tx : ByteArray) (zz : Int) (x : Nd) (h : SoundM ⟨13, ps, nm, lb, ty, op, it, tx, zz⟩) (hx : SeemR (lnB (shp 13).1 ⟨13, ps, nm, lb, ty, op, it, tx, zz⟩) x) : x = ⟨13, 0, nm, lb, ty, op, it, tx, 0⟩ := by
 obtain ⟨⟨kn, p0, p1, hlb, hnm, hty, i0, i1, i2, hop, o0, htx, t0⟩, mnm, mty⟩ := h
 simp only at kn p0 p1 hlb hnm hty i0 i1 i2 hop o0 htx t0 mnm mty
 rw [lnJ_13] at hx
 obtain ⟨k, hk, hx⟩ := hx
 have hwd : ∀ c ∈ ([112, 114, 105, 110, 116] : List UInt8), c ≠ 32 := by decide
 rw [fst_splF hwd] at hk
 obtain rfl := hk.known (j := 13) (by omega) kn (by decide)
 rw [splF_join _ _ hwd (fun x hx => by simp at hx)] at hx
 unfold SeemK at hx
 rw [if_neg (by decide), if_neg (by decide), if_neg (by decide), if_neg (by decide), if_neg (by decide), if_neg (by decide), if_neg (by decide), if_neg (by decide), if_neg (by decide), if_neg (by decide)] at hx
 obtain rfl := nil_ba (hlb.2.2 (by decide))
 obtain rfl := i2 (by decide)
 obtain rfl := nil_ba (hnm.2.2 (by decide))
 obtain rfl := nil_ba (hty.2.2 (by decide))
 obtain rfl := o0 (by decide)
 obtain rfl := nil_ba (t0 (by decide))
 rw [hx]
 rfl
theorem lnJ_14 (ps : Int) (nm lb ty : ByteArray) (op it : Int) (tx : ByteArray) (zz : Int) : lnB (shp 14).1 ⟨14, ps, nm, lb, ty, op, it, tx, zz⟩ = [114, 101, 97, 100] ++ joinW [] := by
 have hw : wordS ⟨14, ps, nm, lb, ty, op, it, tx, zz⟩ = [114, 101, 97, 100] := rfl
 unfold lnB pLb pIt pNm pTy pOp pTx
 rw [hw, if_pos (by decide), if_neg (by decide), if_pos (by decide), if_pos (by decide), if_neg (by decide), if_neg (by decide)]
 simp [joinW]
theorem seem_14 (ps : Int) (nm lb ty : ByteArray) (op it : Int) (tx : ByteArray) (zz : Int) (x : Nd) (h : SoundM ⟨14, ps, nm, lb, ty, op, it, tx, zz⟩) (hx : SeemR (lnB (shp 14).1 ⟨14, ps, nm, lb, ty, op, it, tx, zz⟩) x) : x = ⟨14, 0, nm, lb, ty, op, it, tx, 0⟩ := by
 obtain ⟨⟨kn, p0, p1, hlb, hnm, hty, i0, i1, i2, hop, o0, htx, t0⟩, mnm, mty⟩ := h
 simp only at kn p0 p1 hlb hnm hty i0 i1 i2 hop o0 htx t0 mnm mty
 rw [lnJ_14] at hx
 obtain ⟨k, hk, hx⟩ := hx
 have hwd : ∀ c ∈ ([114, 101, 97, 100] : List UInt8), c ≠ 32 := by decide
 rw [fst_splF hwd] at hk
 obtain rfl := hk.known (j := 14) (by omega) kn (by decide)
 rw [splF_join _ _ hwd (fun x hx => by simp at hx)] at hx
 unfold SeemK at hx
 rw [if_neg (by decide), if_neg (by decide), if_neg (by decide), if_neg (by decide), if_neg (by decide), if_neg (by decide), if_neg (by decide), if_neg (by decide), if_neg (by decide), if_neg (by decide)] at hx
 obtain rfl := nil_ba (hlb.2.2 (by decide))
 obtain rfl := i2 (by decide)
 obtain rfl := nil_ba (hnm.2.2 (by decide))
 obtain rfl := nil_ba (hty.2.2 (by decide))
 obtain rfl := o0 (by decide)
 obtain rfl := nil_ba (t0 (by decide))
 rw [hx]
 rfl
theorem lnJ_15 (ps : Int) (nm lb ty : ByteArray) (op it : Int) (tx : ByteArray) (zz : Int) : lnB (shp 15).1 ⟨15, ps, nm, lb, ty, op, it, tx, zz⟩ = [100, 111] ++ joinW [] := by
 have hw : wordS ⟨15, ps, nm, lb, ty, op, it, tx, zz⟩ = [100, 111] := rfl
 unfold lnB pLb pIt pNm pTy pOp pTx
 rw [hw, if_pos (by decide), if_neg (by decide), if_pos (by decide), if_pos (by decide), if_neg (by decide), if_neg (by decide)]
 simp [joinW]
theorem seem_15 (ps : Int) (nm lb ty : ByteArray) (op it : Int) (tx : ByteArray) (zz : Int) (x : Nd) (h : SoundM ⟨15, ps, nm, lb, ty, op, it, tx, zz⟩) (hx : SeemR (lnB (shp 15).1 ⟨15, ps, nm, lb, ty, op, it, tx, zz⟩) x) : x = ⟨15, 0, nm, lb, ty, op, it, tx, 0⟩ := by
 obtain ⟨⟨kn, p0, p1, hlb, hnm, hty, i0, i1, i2, hop, o0, htx, t0⟩, mnm, mty⟩ := h
 simp only at kn p0 p1 hlb hnm hty i0 i1 i2 hop o0 htx t0 mnm mty
 rw [lnJ_15] at hx
 obtain ⟨k, hk, hx⟩ := hx
 have hwd : ∀ c ∈ ([100, 111] : List UInt8), c ≠ 32 := by decide
 rw [fst_splF hwd] at hk
 obtain rfl := hk.known (j := 15) (by omega) kn (by decide)
 rw [splF_join _ _ hwd (fun x hx => by simp at hx)] at hx
 unfold SeemK at hx
 rw [if_neg (by decide), if_neg (by decide), if_neg (by decide), if_neg (by decide), if_neg (by decide), if_neg (by decide), if_neg (by decide), if_neg (by decide), if_neg (by decide), if_neg (by decide)] at hx
 obtain rfl := nil_ba (hlb.2.2 (by decide))
 obtain rfl := i2 (by decide)
 obtain rfl := nil_ba (hnm.2.2 (by decide))
 obtain rfl := nil_ba (hty.2.2 (by decide))
 obtain rfl := o0 (by decide)
 obtain rfl := nil_ba (t0 (by decide))
 rw [hx]
 rfl
theorem lnJ_16 (ps : Int) (nm lb ty : ByteArray) (op it : Int) (tx : ByteArray) (zz : Int) : lnB (shp 16).1 ⟨16, ps, nm, lb, ty, op, it, tx, zz⟩ = [104, 111, 111, 107] ++ joinW [Lib.itoa it, orS nm.data.toList] := by
 have hw : wordS ⟨16, ps, nm, lb, ty, op, it, tx, zz⟩ = [104, 111, 111, 107] := rfl
 unfold lnB pLb pIt pNm pTy pOp pTx
 rw [hw, if_pos (by decide), if_pos (by decide), if_neg (by decide), if_pos (by decide), if_neg (by decide), if_neg (by decide)]
 simp [joinW, aw]
theorem seem_16 (ps : Int) (nm lb ty : ByteArray) (op it : Int) (tx : ByteArray) (zz : Int) (x : Nd) (h : SoundM ⟨16, ps, nm, lb, ty, op, it, tx, zz⟩) (hx : SeemR (lnB (shp 16).1 ⟨16, ps, nm, lb, ty, op, it, tx, zz⟩) x) : x = ⟨16, 0, nm, lb, ty, op, it, tx, 0⟩ := by
 obtain ⟨⟨kn, p0, p1, hlb, hnm, hty, i0, i1, i2, hop, o0, htx, t0⟩, mnm, mty⟩ := h
 simp only at kn p0 p1 hlb hnm hty i0 i1 i2 hop o0 htx t0 mnm mty
 rw [lnJ_16] at hx
 obtain ⟨k, hk, hx⟩ := hx
 have hwd : ∀ c ∈ ([104, 111, 111, 107] : List UInt8), c ≠ 32 := by decide
 rw [fst_splF hwd] at hk
 obtain rfl := hk.known (j := 16) (by omega) kn (by decide)
 rw [splF_join _ _ hwd (fun x hx => by rcases List.mem_cons.1 hx with rfl | hx; (exact itoa_no32 i0); rw [List.mem_singleton.1 hx]; exact or_no32 hnm.1)] at hx
 unfold SeemK at hx
 rw [if_neg (by decide), if_neg (by decide), if_neg (by decide), if_neg (by decide), if_pos (by decide)] at hx
 obtain rfl := nil_ba (hlb.2.2 (by decide))
 obtain rfl := nil_ba (hty.2.2 (by decide))
 obtain rfl := o0 (by decide)
 obtain rfl := nil_ba (t0 (by decide))
 simp only [List.getD_cons_succ, List.getD_cons_zero] at hx
 rw [numF_itoa i0 i1, none_or hnm.2.1] at hx
 simp only [bk_of] at hx
 rw [hx]
 rfl
theorem lnJ_20 (ps : Int) (nm lb ty : ByteArray) (op it : Int) (tx : ByteArray) (zz : Int) : lnB (shp 20).1 ⟨20, ps, nm, lb, ty, op, it, tx, zz⟩ = [105, 110, 116] ++ joinW [Lib.itoa it] := by
 have hw : wordS ⟨20, ps, nm, lb, ty, op, it, tx, zz⟩ = [105, 110, 116] := rfl
 unfold lnB pLb pIt pNm pTy pOp pTx
 rw [hw, if_pos (by decide), if_pos (by decide), if_pos (by decide), if_pos (by decide), if_neg (by decide), if_neg (by decide)]
 simp [joinW]
theorem seem_20 (ps : Int) (nm lb ty : ByteArray) (op it : Int) (tx : ByteArray) (zz : Int) (x : Nd) (h : SoundM ⟨20, ps, nm, lb, ty, op, it, tx, zz⟩) (hx : SeemR (lnB (shp 20).1 ⟨20, ps, nm, lb, ty, op, it, tx, zz⟩) x) : x = ⟨20, 0, nm, lb, ty, op, it, tx, 0⟩ := by
 obtain ⟨⟨kn, p0, p1, hlb, hnm, hty, i0, i1, i2, hop, o0, htx, t0⟩, mnm, mty⟩ := h
 simp only at kn p0 p1 hlb hnm hty i0 i1 i2 hop o0 htx t0 mnm mty
 rw [lnJ_20] at hx
 obtain ⟨k, hk, hx⟩ := hx
 have hwd : ∀ c ∈ ([105, 110, 116] : List UInt8), c ≠ 32 := by decide
 rw [fst_splF hwd] at hk
 obtain rfl := hk.known (j := 20) (by omega) kn (by decide)
 rw [splF_join _ _ hwd (fun x hx => by rw [List.mem_singleton.1 hx]; exact itoa_no32 i0)] at hx
 unfold SeemK at hx
 rw [if_neg (by decide), if_neg (by decide), if_neg (by decide), if_pos (by decide)] at hx
 obtain rfl := nil_ba (hlb.2.2 (by decide))
 obtain rfl := nil_ba (hnm.2.2 (by decide))
 obtain rfl := nil_ba (hty.2.2 (by decide))
 obtain rfl := o0 (by decide)
 obtain rfl := nil_ba (t0 (by decide))
 simp only [List.getD_cons_succ, List.getD_cons_zero] at hx
 rw [numF_itoa i0 i1] at hx
 rw [hx]
 rfl
theorem lnJ_21 (ps : Int) (nm lb ty : ByteArray) (op it : Int) (tx : ByteArray) (zz : Int) : lnB (shp 21).1 ⟨21, ps, nm, lb, ty, op, it, tx, zz⟩ = [98, 111, 111, 108] ++ joinW [Lib.itoa it] := by
 have hw : wordS ⟨21, ps, nm, lb, ty, op, it, tx, zz⟩ = [98, 111, 111, 108] := rfl
 unfold lnB pLb pIt pNm pTy pOp pTx
 rw [hw, if_pos (by decide), if_pos (by decide), if_pos (by decide), if_pos (by decide), if_neg (by decide), if_neg (by decide)]
 simp [joinW]
theorem seem_21 (ps : Int) (nm lb ty : ByteArray) (op it : Int) (tx : ByteArray) (zz : Int) (x : Nd) (h : SoundM ⟨21, ps, nm, lb, ty, op, it, tx, zz⟩) (hx : SeemR (lnB (shp 21).1 ⟨21, ps, nm, lb, ty, op, it, tx, zz⟩) x) : x = ⟨21, 0, nm, lb, ty, op, it, tx, 0⟩ := by
 obtain ⟨⟨kn, p0, p1, hlb, hnm, hty, i0, i1, i2, hop, o0, htx, t0⟩, mnm, mty⟩ := h
 simp only at kn p0 p1 hlb hnm hty i0 i1 i2 hop o0 htx t0 mnm mty
 rw [lnJ_21] at hx
 obtain ⟨k, hk, hx⟩ := hx
 have hwd : ∀ c ∈ ([98, 111, 111, 108] : List UInt8), c ≠ 32 := by decide
 rw [fst_splF hwd] at hk
 obtain rfl := hk.known (j := 21) (by omega) kn (by decide)
 rw [splF_join _ _ hwd (fun x hx => by rw [List.mem_singleton.1 hx]; exact itoa_no32 i0)] at hx
 unfold SeemK at hx
 rw [if_neg (by decide), if_neg (by decide), if_neg (by decide), if_pos (by decide)] at hx
 obtain rfl := nil_ba (hlb.2.2 (by decide))
 obtain rfl := nil_ba (hnm.2.2 (by decide))
 obtain rfl := nil_ba (hty.2.2 (by decide))
 obtain rfl := o0 (by decide)
 obtain rfl := nil_ba (t0 (by decide))
 simp only [List.getD_cons_succ, List.getD_cons_zero] at hx
 rw [numF_itoa i0 i1] at hx
 rw [hx]
 rfl
theorem lnJ_22 (ps : Int) (nm lb ty : ByteArray) (op it : Int) (tx : ByteArray) (zz : Int) : lnB (shp 22).1 ⟨22, ps, nm, lb, ty, op, it, tx, zz⟩ = [116, 101, 120, 116] ++ joinW [orS (Lx.qt tx.data.toList)] := by
 have hw : wordS ⟨22, ps, nm, lb, ty, op, it, tx, zz⟩ = [116, 101, 120, 116] := rfl
 unfold lnB pLb pIt pNm pTy pOp pTx
 rw [hw, if_pos (by decide), if_neg (by decide), if_pos (by decide), if_pos (by decide), if_neg (by decide), if_pos (by decide)]
 simp [joinW, aw]
theorem seem_22 (ps : Int) (nm lb ty : ByteArray) (op it : Int) (tx : ByteArray) (zz : Int) (x : Nd) (h : SoundM ⟨22, ps, nm, lb, ty, op, it, tx, zz⟩) (hx : SeemR (lnB (shp 22).1 ⟨22, ps, nm, lb, ty, op, it, tx, zz⟩) x) : x = ⟨22, 0, nm, lb, ty, op, it, tx, 0⟩ := by
 obtain ⟨⟨kn, p0, p1, hlb, hnm, hty, i0, i1, i2, hop, o0, htx, t0⟩, mnm, mty⟩ := h
 simp only at kn p0 p1 hlb hnm hty i0 i1 i2 hop o0 htx t0 mnm mty
 rw [lnJ_22] at hx
 obtain ⟨k, hk, hx⟩ := hx
 have hwd : ∀ c ∈ ([116, 101, 120, 116] : List UInt8), c ≠ 32 := by decide
 rw [fst_splF hwd] at hk
 obtain rfl := hk.known (j := 22) (by omega) kn (by decide)
 unfold SeemK at hx
 rw [if_neg (by decide), if_neg (by decide), if_neg (by decide), if_neg (by decide), if_neg (by decide), if_pos (by decide)] at hx
 obtain rfl := nil_ba (hlb.2.2 (by decide))
 obtain rfl := i2 (by decide)
 obtain rfl := nil_ba (hnm.2.2 (by decide))
 obtain rfl := nil_ba (hty.2.2 (by decide))
 obtain rfl := o0 (by decide)
 have hq : ([116, 101, 120, 116] ++ joinW [orS (Lx.qt tx.data.toList)] : List UInt8).drop 5 = Lx.qt tx.data.toList := by
  rw [or_ne (qt_ne _)]
  simp [joinW]
 have hl5 : 5 < ([116, 101, 120, 116] ++ joinW [orS (Lx.qt tx.data.toList)] : List UInt8).length := by
  rw [or_ne (qt_ne _)]
  have := List.length_pos_iff.2 (qt_ne tx.data.toList)
  simp [joinW]
  omega
 rw [if_pos hl5, hq, qF_qt htx, bk_of] at hx
 rw [hx]
 rfl
theorem lnJ_23 (ps : Int) (nm lb ty : ByteArray) (op it : Int) (tx : ByteArray) (zz : Int) : lnB (shp 23).1 ⟨23, ps, nm, lb, ty, op, it, tx, zz⟩ = [110, 97, 109, 101] ++ joinW [orS nm.data.toList] := by
 have hw : wordS ⟨23, ps, nm, lb, ty, op, it, tx, zz⟩ = [110, 97, 109, 101] := rfl
 unfold lnB pLb pIt pNm pTy pOp pTx
 rw [hw, if_pos (by decide), if_neg (by decide), if_neg (by decide), if_pos (by decide), if_neg (by decide), if_neg (by decide)]
 simp [joinW, aw]
theorem seem_23 (ps : Int) (nm lb ty : ByteArray) (op it : Int) (tx : ByteArray) (zz : Int) (x : Nd) (h : SoundM ⟨23, ps, nm, lb, ty, op, it, tx, zz⟩) (hx : SeemR (lnB (shp 23).1 ⟨23, ps, nm, lb, ty, op, it, tx, zz⟩) x) : x = ⟨23, 0, nm, lb, ty, op, it, tx, 0⟩ := by
 obtain ⟨⟨kn, p0, p1, hlb, hnm, hty, i0, i1, i2, hop, o0, htx, t0⟩, mnm, mty⟩ := h
 simp only at kn p0 p1 hlb hnm hty i0 i1 i2 hop o0 htx t0 mnm mty
 rw [lnJ_23] at hx
 obtain ⟨k, hk, hx⟩ := hx
 have hwd : ∀ c ∈ ([110, 97, 109, 101] : List UInt8), c ≠ 32 := by decide
 rw [fst_splF hwd] at hk
 obtain rfl := hk.known (j := 23) (by omega) kn (by decide)
 rw [splF_join _ _ hwd (fun x hx => by rw [List.mem_singleton.1 hx]; exact or_no32 hnm.1)] at hx
 unfold SeemK at hx
 rw [if_neg (by decide), if_neg (by decide), if_neg (by decide), if_neg (by decide), if_neg (by decide), if_neg (by decide), if_pos (by decide)] at hx
 obtain rfl := nil_ba (hlb.2.2 (by decide))
 obtain rfl := i2 (by decide)
 obtain rfl := nil_ba (hty.2.2 (by decide))
 obtain rfl := o0 (by decide)
 obtain rfl := nil_ba (t0 (by decide))
 simp only [List.getD_cons_succ, List.getD_cons_zero] at hx
 rw [or_ne (mnm (by decide))] at hx
 simp only [bk_of] at hx
 rw [hx]
 rfl
theorem lnJ_24 (ps : Int) (nm lb ty : ByteArray) (op it : Int) (tx : ByteArray) (zz : Int) : lnB (shp 24).1 ⟨24, ps, nm, lb, ty, op, it, tx, zz⟩ = [105, 110, 100, 101, 120] ++ joinW [] := by
 have hw : wordS ⟨24, ps, nm, lb, ty, op, it, tx, zz⟩ = [105, 110, 100, 101, 120] := rfl
 unfold lnB pLb pIt pNm pTy pOp pTx
 rw [hw, if_pos (by decide), if_neg (by decide), if_pos (by decide), if_pos (by decide), if_neg (by decide), if_neg (by decide)]
 simp [joinW]
theorem seem_24 (ps : Int) (nm lb ty : ByteArray) (op it : Int) (tx : ByteArray) (zz : Int) (x : Nd) (h : SoundM ⟨24, ps, nm, lb, ty, op, it, tx, zz⟩) (hx : SeemR (lnB (shp 24).1 ⟨24, ps, nm, lb, ty, op, it, tx, zz⟩) x) : x = ⟨24, 0, nm, lb, ty, op, it, tx, 0⟩ := by
 obtain ⟨⟨kn, p0, p1, hlb, hnm, hty, i0, i1, i2, hop, o0, htx, t0⟩, mnm, mty⟩ := h
 simp only at kn p0 p1 hlb hnm hty i0 i1 i2 hop o0 htx t0 mnm mty
 rw [lnJ_24] at hx
 obtain ⟨k, hk, hx⟩ := hx
 have hwd : ∀ c ∈ ([105, 110, 100, 101, 120] : List UInt8), c ≠ 32 := by decide
 rw [fst_splF hwd] at hk
 obtain rfl := hk.known (j := 24) (by omega) kn (by decide)
 rw [splF_join _ _ hwd (fun x hx => by simp at hx)] at hx
 unfold SeemK at hx
 rw [if_neg (by decide), if_neg (by decide), if_neg (by decide), if_neg (by decide), if_neg (by decide), if_neg (by decide), if_neg (by decide), if_neg (by decide), if_neg (by decide), if_neg (by decide)] at hx
 obtain rfl := nil_ba (hlb.2.2 (by decide))
 obtain rfl := i2 (by decide)
 obtain rfl := nil_ba (hnm.2.2 (by decide))
 obtain rfl := nil_ba (hty.2.2 (by decide))
 obtain rfl := o0 (by decide)
 obtain rfl := nil_ba (t0 (by decide))
 rw [hx]
 rfl
theorem lnJ_25 (ps : Int) (nm lb ty : ByteArray) (op it : Int) (tx : ByteArray) (zz : Int) : lnB (shp 25).1 ⟨25, ps, nm, lb, ty, op, it, tx, zz⟩ = [99, 97, 108, 108] ++ joinW [orS nm.data.toList] := by
 have hw : wordS ⟨25, ps, nm, lb, ty, op, it, tx, zz⟩ = [99, 97, 108, 108] := rfl
 unfold lnB pLb pIt pNm pTy pOp pTx
 rw [hw, if_pos (by decide), if_neg (by decide), if_neg (by decide), if_pos (by decide), if_neg (by decide), if_neg (by decide)]
 simp [joinW, aw]
theorem seem_25 (ps : Int) (nm lb ty : ByteArray) (op it : Int) (tx : ByteArray) (zz : Int) (x : Nd) (h : SoundM ⟨25, ps, nm, lb, ty, op, it, tx, zz⟩) (hx : SeemR (lnB (shp 25).1 ⟨25, ps, nm, lb, ty, op, it, tx, zz⟩) x) : x = ⟨25, 0, nm, lb, ty, op, it, tx, 0⟩ := by
 obtain ⟨⟨kn, p0, p1, hlb, hnm, hty, i0, i1, i2, hop, o0, htx, t0⟩, mnm, mty⟩ := h
 simp only at kn p0 p1 hlb hnm hty i0 i1 i2 hop o0 htx t0 mnm mty
 rw [lnJ_25] at hx
 obtain ⟨k, hk, hx⟩ := hx
 have hwd : ∀ c ∈ ([99, 97, 108, 108] : List UInt8), c ≠ 32 := by decide
 rw [fst_splF hwd] at hk
 obtain rfl := hk.known (j := 25) (by omega) kn (by decide)
 rw [splF_join _ _ hwd (fun x hx => by rw [List.mem_singleton.1 hx]; exact or_no32 hnm.1)] at hx
 unfold SeemK at hx
 rw [if_neg (by decide), if_neg (by decide), if_neg (by decide), if_neg (by decide), if_neg (by decide), if_neg (by decide), if_pos (by decide)] at hx
 obtain rfl := nil_ba (hlb.2.2 (by decide))
 obtain rfl := i2 (by decide)
 obtain rfl := nil_ba (hty.2.2 (by decide))
 obtain rfl := o0 (by decide)
 obtain rfl := nil_ba (t0 (by decide))
 simp only [List.getD_cons_succ, List.getD_cons_zero] at hx
 rw [or_ne (mnm (by decide))] at hx
 simp only [bk_of] at hx
 rw [hx]
 rfl
theorem lnJ_26 (ps : Int) (nm lb ty : ByteArray) (op it : Int) (tx : ByteArray) (zz : Int) : lnB (shp 26).1 ⟨26, ps, nm, lb, ty, op, it, tx, zz⟩ = [117, 110, 97, 114, 121] ++ joinW [orS (sgT.getD op.toNat ByteArray.empty).data.toList] := by
 have hw : wordS ⟨26, ps, nm, lb, ty, op, it, tx, zz⟩ = [117, 110, 97, 114, 121] := rfl
 unfold lnB pLb pIt pNm pTy pOp pTx
 rw [hw, if_pos (by decide), if_neg (by decide), if_pos (by decide), if_pos (by decide), if_pos (by decide), if_neg (by decide)]
 simp [joinW, aw]
theorem seem_26 (ps : Int) (nm lb ty : ByteArray) (op it : Int) (tx : ByteArray) (zz : Int) (x : Nd) (h : SoundM ⟨26, ps, nm, lb, ty, op, it, tx, zz⟩) (hx : SeemR (lnB (shp 26).1 ⟨26, ps, nm, lb, ty, op, it, tx, zz⟩) x) : x = ⟨26, 0, nm, lb, ty, op, it, tx, 0⟩ := by
 obtain ⟨⟨kn, p0, p1, hlb, hnm, hty, i0, i1, i2, hop, o0, htx, t0⟩, mnm, mty⟩ := h
 simp only at kn p0 p1 hlb hnm hty i0 i1 i2 hop o0 htx t0 mnm mty
 rw [lnJ_26] at hx
 obtain ⟨k, hk, hx⟩ := hx
 have hwd : ∀ c ∈ ([117, 110, 97, 114, 121] : List UInt8), c ≠ 32 := by decide
 rw [fst_splF hwd] at hk
 obtain rfl := hk.known (j := 26) (by omega) kn (by decide)
 have hopb := hop (by decide)
 have hop1 : 1 ≤ op ∧ op ≤ 2 := hopb
 obtain ⟨on, rfl⟩ : ∃ on : Nat, op = (on : Int) := ⟨op.toNat, by omega⟩
 rw [Int.toNat_natCast] at hx
 have hsg : orS (sgT.getD on ByteArray.empty).data.toList = (sgT.getD on ByteArray.empty).data.toList := or_ne (sg_ne (by omega) (by omega))
 rw [hsg] at hx
 have hop32 : ∀ c ∈ (sgT.getD on ByteArray.empty).data.toList, c ≠ 32 := sg_32_all ⟨on, by omega⟩
 rw [splF_join _ _ hwd (fun x hx => by rw [List.mem_singleton.1 hx]; exact hop32)] at hx
 unfold SeemK at hx
 rw [if_neg (by decide), if_neg (by decide), if_neg (by decide), if_neg (by decide), if_neg (by decide), if_neg (by decide), if_neg (by decide), if_pos (by decide)] at hx
 obtain rfl := nil_ba (hlb.2.2 (by decide))
 obtain rfl := i2 (by decide)
 obtain rfl := nil_ba (hnm.2.2 (by decide))
 obtain rfl := nil_ba (hty.2.2 (by decide))
 obtain rfl := nil_ba (t0 (by decide))
 obtain ⟨v, hv, rfl⟩ := hx
 obtain rfl := op1_eq (by omega) (by omega) hv
 rfl
theorem lnJ_27 (ps : Int) (nm lb ty : ByteArray) (op it : Int) (tx : ByteArray) (zz : Int) : lnB (shp 27).1 ⟨27, ps, nm, lb, ty, op, it, tx, zz⟩ = [98, 105, 110, 97, 114, 121] ++ joinW [orS (sgT.getD op.toNat ByteArray.empty).data.toList] := by
 have hw : wordS ⟨27, ps, nm, lb, ty, op, it, tx, zz⟩ = [98, 105, 110, 97, 114, 121] := rfl
 unfold lnB pLb pIt pNm pTy pOp pTx
 rw [hw, if_pos (by decide), if_neg (by decide), if_pos (by decide), if_pos (by decide), if_pos (by decide), if_neg (by decide)]
 simp [joinW, aw]
theorem seem_27 (ps : Int) (nm lb ty : ByteArray) (op it : Int) (tx : ByteArray) (zz : Int) (x : Nd) (h : SoundM ⟨27, ps, nm, lb, ty, op, it, tx, zz⟩) (hx : SeemR (lnB (shp 27).1 ⟨27, ps, nm, lb, ty, op, it, tx, zz⟩) x) : x = ⟨27, 0, nm, lb, ty, op, it, tx, 0⟩ := by
 obtain ⟨⟨kn, p0, p1, hlb, hnm, hty, i0, i1, i2, hop, o0, htx, t0⟩, mnm, mty⟩ := h
 simp only at kn p0 p1 hlb hnm hty i0 i1 i2 hop o0 htx t0 mnm mty
 rw [lnJ_27] at hx
 obtain ⟨k, hk, hx⟩ := hx
 have hwd : ∀ c ∈ ([98, 105, 110, 97, 114, 121] : List UInt8), c ≠ 32 := by decide
 rw [fst_splF hwd] at hk
 obtain rfl := hk.known (j := 27) (by omega) kn (by decide)
 have hopb := hop (by decide)
 have hop1 : 3 ≤ op ∧ op ≤ 15 := hopb
 obtain ⟨on, rfl⟩ : ∃ on : Nat, op = (on : Int) := ⟨op.toNat, by omega⟩
 rw [Int.toNat_natCast] at hx
 have hsg : orS (sgT.getD on ByteArray.empty).data.toList = (sgT.getD on ByteArray.empty).data.toList := or_ne (sg_ne (by omega) (by omega))
 rw [hsg] at hx
 have hop32 : ∀ c ∈ (sgT.getD on ByteArray.empty).data.toList, c ≠ 32 := sg_32_all ⟨on, by omega⟩
 rw [splF_join _ _ hwd (fun x hx => by rw [List.mem_singleton.1 hx]; exact hop32)] at hx
 unfold SeemK at hx
 rw [if_neg (by decide), if_neg (by decide), if_neg (by decide), if_neg (by decide), if_neg (by decide), if_neg (by decide), if_neg (by decide), if_neg (by decide), if_pos (by decide)] at hx
 obtain rfl := nil_ba (hlb.2.2 (by decide))
 obtain rfl := i2 (by decide)
 obtain rfl := nil_ba (hnm.2.2 (by decide))
 obtain rfl := nil_ba (hty.2.2 (by decide))
 obtain rfl := nil_ba (t0 (by decide))
 obtain ⟨v, hv, rfl⟩ := hx
 obtain rfl := op2_eq (by omega) (by omega) hv
 rfl
theorem lnJ_28 (ps : Int) (nm lb ty : ByteArray) (op it : Int) (tx : ByteArray) (zz : Int) : lnB (shp 28).1 ⟨28, ps, nm, lb, ty, op, it, tx, zz⟩ = [110, 101, 119] ++ joinW [orS ty.data.toList] := by
 have hw : wordS ⟨28, ps, nm, lb, ty, op, it, tx, zz⟩ = [110, 101, 119] := rfl
 unfold lnB pLb pIt pNm pTy pOp pTx
 rw [hw, if_pos (by decide), if_neg (by decide), if_pos (by decide), if_neg (by decide), if_neg (by decide), if_neg (by decide)]
 simp [joinW, aw]
theorem seem_28 (ps : Int) (nm lb ty : ByteArray) (op it : Int) (tx : ByteArray) (zz : Int) (x : Nd) (h : SoundM ⟨28, ps, nm, lb, ty, op, it, tx, zz⟩) (hx : SeemR (lnB (shp 28).1 ⟨28, ps, nm, lb, ty, op, it, tx, zz⟩) x) : x = ⟨28, 0, nm, lb, ty, op, it, tx, 0⟩ := by
 obtain ⟨⟨kn, p0, p1, hlb, hnm, hty, i0, i1, i2, hop, o0, htx, t0⟩, mnm, mty⟩ := h
 simp only at kn p0 p1 hlb hnm hty i0 i1 i2 hop o0 htx t0 mnm mty
 rw [lnJ_28] at hx
 obtain ⟨k, hk, hx⟩ := hx
 have hwd : ∀ c ∈ ([110, 101, 119] : List UInt8), c ≠ 32 := by decide
 rw [fst_splF hwd] at hk
 obtain rfl := hk.known (j := 28) (by omega) kn (by decide)
 rw [splF_join _ _ hwd (fun x hx => by rw [List.mem_singleton.1 hx]; exact or_no32 hty.1)] at hx
 unfold SeemK at hx
 rw [if_neg (by decide), if_neg (by decide), if_neg (by decide), if_neg (by decide), if_neg (by decide), if_neg (by decide), if_neg (by decide), if_neg (by decide), if_neg (by decide), if_pos (by decide)] at hx
 obtain rfl := nil_ba (hlb.2.2 (by decide))
 obtain rfl := i2 (by decide)
 obtain rfl := nil_ba (hnm.2.2 (by decide))
 obtain rfl := o0 (by decide)
 obtain rfl := nil_ba (t0 (by decide))
 simp only [List.getD_cons_succ, List.getD_cons_zero] at hx
 rw [or_ne (mty (by decide))] at hx
 simp only [bk_of] at hx
 rw [hx]
 rfl
theorem lnJ_29 (ps : Int) (nm lb ty : ByteArray) (op it : Int) (tx : ByteArray) (zz : Int) : lnB (shp 29).1 ⟨29, ps, nm, lb, ty, op, it, tx, zz⟩ = [108, 101, 110] ++ joinW [] := by
 have hw : wordS ⟨29, ps, nm, lb, ty, op, it, tx, zz⟩ = [108, 101, 110] := rfl
 unfold lnB pLb pIt pNm pTy pOp pTx
 rw [hw, if_pos (by decide), if_neg (by decide), if_pos (by decide), if_pos (by decide), if_neg (by decide), if_neg (by decide)]
 simp [joinW]
theorem seem_29 (ps : Int) (nm lb ty : ByteArray) (op it : Int) (tx : ByteArray) (zz : Int) (x : Nd) (h : SoundM ⟨29, ps, nm, lb, ty, op, it, tx, zz⟩) (hx : SeemR (lnB (shp 29).1 ⟨29, ps, nm, lb, ty, op, it, tx, zz⟩) x) : x = ⟨29, 0, nm, lb, ty, op, it, tx, 0⟩ := by
 obtain ⟨⟨kn, p0, p1, hlb, hnm, hty, i0, i1, i2, hop, o0, htx, t0⟩, mnm, mty⟩ := h
 simp only at kn p0 p1 hlb hnm hty i0 i1 i2 hop o0 htx t0 mnm mty
 rw [lnJ_29] at hx
 obtain ⟨k, hk, hx⟩ := hx
 have hwd : ∀ c ∈ ([108, 101, 110] : List UInt8), c ≠ 32 := by decide
 rw [fst_splF hwd] at hk
 obtain rfl := hk.known (j := 29) (by omega) kn (by decide)
 rw [splF_join _ _ hwd (fun x hx => by simp at hx)] at hx
 unfold SeemK at hx
 rw [if_neg (by decide), if_neg (by decide), if_neg (by decide), if_neg (by decide), if_neg (by decide), if_neg (by decide), if_neg (by decide), if_neg (by decide), if_neg (by decide), if_neg (by decide)] at hx
 obtain rfl := nil_ba (hlb.2.2 (by decide))
 obtain rfl := i2 (by decide)
 obtain rfl := nil_ba (hnm.2.2 (by decide))
 obtain rfl := nil_ba (hty.2.2 (by decide))
 obtain rfl := o0 (by decide)
 obtain rfl := nil_ba (t0 (by decide))
 rw [hx]
 rfl
theorem lnJ_30 (ps : Int) (nm lb ty : ByteArray) (op it : Int) (tx : ByteArray) (zz : Int) : lnB (shp 30).1 ⟨30, ps, nm, lb, ty, op, it, tx, zz⟩ = [115, 116, 114] ++ joinW [] := by
 have hw : wordS ⟨30, ps, nm, lb, ty, op, it, tx, zz⟩ = [115, 116, 114] := rfl
 unfold lnB pLb pIt pNm pTy pOp pTx
 rw [hw, if_pos (by decide), if_neg (by decide), if_pos (by decide), if_pos (by decide), if_neg (by decide), if_neg (by decide)]
 simp [joinW]
theorem seem_30 (ps : Int) (nm lb ty : ByteArray) (op it : Int) (tx : ByteArray) (zz : Int) (x : Nd) (h : SoundM ⟨30, ps, nm, lb, ty, op, it, tx, zz⟩) (hx : SeemR (lnB (shp 30).1 ⟨30, ps, nm, lb, ty, op, it, tx, zz⟩) x) : x = ⟨30, 0, nm, lb, ty, op, it, tx, 0⟩ := by
 obtain ⟨⟨kn, p0, p1, hlb, hnm, hty, i0, i1, i2, hop, o0, htx, t0⟩, mnm, mty⟩ := h
 simp only at kn p0 p1 hlb hnm hty i0 i1 i2 hop o0 htx t0 mnm mty
 rw [lnJ_30] at hx
 obtain ⟨k, hk, hx⟩ := hx
 have hwd : ∀ c ∈ ([115, 116, 114] : List UInt8), c ≠ 32 := by decide
 rw [fst_splF hwd] at hk
 obtain rfl := hk.known (j := 30) (by omega) kn (by decide)
 rw [splF_join _ _ hwd (fun x hx => by simp at hx)] at hx
 unfold SeemK at hx
 rw [if_neg (by decide), if_neg (by decide), if_neg (by decide), if_neg (by decide), if_neg (by decide), if_neg (by decide), if_neg (by decide), if_neg (by decide), if_neg (by decide), if_neg (by decide)] at hx
 obtain rfl := nil_ba (hlb.2.2 (by decide))
 obtain rfl := i2 (by decide)
 obtain rfl := nil_ba (hnm.2.2 (by decide))
 obtain rfl := nil_ba (hty.2.2 (by decide))
 obtain rfl := o0 (by decide)
 obtain rfl := nil_ba (t0 (by decide))
 rw [hx]
 rfl
theorem seem_ok {y x : Nd} (h : SoundM y) (hx : SeemR (lnB (shp y.kind).1 y) x) : x = { y with pos := 0, size := 0 } := by
 obtain ⟨kd, ps, nm, lb, ty, op, it, tx, zz⟩ := y
 have kn := h.s.kn
 simp only at kn
 obtain ⟨k1, k2⟩ := shp_range kd kn
 have hk : kd = 1 ∨ kd = 2 ∨ kd = 3 ∨ kd = 4 ∨ kd = 5 ∨ kd = 6 ∨ kd = 7 ∨ kd = 8 ∨ kd = 9 ∨ kd = 10 ∨ kd = 11 ∨ kd = 12 ∨ kd = 13 ∨ kd = 14 ∨ kd = 15 ∨ kd = 16 ∨ kd = 17 ∨ kd = 18 ∨ kd = 19 ∨ kd = 20 ∨ kd = 21 ∨ kd = 22 ∨ kd = 23 ∨ kd = 24 ∨ kd = 25 ∨ kd = 26 ∨ kd = 27 ∨ kd = 28 ∨ kd = 29 ∨ kd = 30 := by omega
 rcases hk with rfl | rfl | rfl | rfl | rfl | rfl | rfl | rfl | rfl | rfl | rfl | rfl | rfl | rfl | rfl | rfl | rfl | rfl | rfl | rfl | rfl | rfl | rfl | rfl | rfl | rfl | rfl | rfl | rfl | rfl
 ·exact seem_1 ps nm lb ty op it tx zz x h hx
 ·exact seem_2 ps nm lb ty op it tx zz x h hx
 ·exact seem_3 ps nm lb ty op it tx zz x h hx
 ·exact seem_4 ps nm lb ty op it tx zz x h hx
 ·exact seem_5 ps nm lb ty op it tx zz x h hx
 ·exact seem_6 ps nm lb ty op it tx zz x h hx
 ·exact seem_7 ps nm lb ty op it tx zz x h hx
 ·exact seem_8 ps nm lb ty op it tx zz x h hx
 ·exact seem_9 ps nm lb ty op it tx zz x h hx
 ·exact seem_10 ps nm lb ty op it tx zz x h hx
 ·exact seem_11 ps nm lb ty op it tx zz x h hx
 ·exact seem_12 ps nm lb ty op it tx zz x h hx
 ·exact seem_13 ps nm lb ty op it tx zz x h hx
 ·exact seem_14 ps nm lb ty op it tx zz x h hx
 ·exact seem_15 ps nm lb ty op it tx zz x h hx
 ·exact seem_16 ps nm lb ty op it tx zz x h hx
 ·exact absurd kn (by decide)
 ·exact absurd kn (by decide)
 ·exact absurd kn (by decide)
 ·exact seem_20 ps nm lb ty op it tx zz x h hx
 ·exact seem_21 ps nm lb ty op it tx zz x h hx
 ·exact seem_22 ps nm lb ty op it tx zz x h hx
 ·exact seem_23 ps nm lb ty op it tx zz x h hx
 ·exact seem_24 ps nm lb ty op it tx zz x h hx
 ·exact seem_25 ps nm lb ty op it tx zz x h hx
 ·exact seem_26 ps nm lb ty op it tx zz x h hx
 ·exact seem_27 ps nm lb ty op it tx zz x h hx
 ·exact seem_28 ps nm lb ty op it tx zz x h hx
 ·exact seem_29 ps nm lb ty op it tx zz x h hx
 ·exact seem_30 ps nm lb ty op it tx zz x h hx
def linA : List UInt8 → List UInt8 → List (List UInt8)
 | _, [] => []
 | cur, c :: r => if c = 10 then cur :: linA [] r else linA (cur ++ [c]) r
def linF (l : List UInt8) : List (List UInt8) := if l.getLast? = some 10 then linA [] l else []
theorem linA_len : ∀ (l cur : List UInt8), (linA cur l).length ≤ l.length
 | [], cur => by unfold linA; simp
 | c :: r, cur => by
  unfold linA
  split
  ·have := linA_len r []
   simp only [List.length_cons]
   omega
  ·have := linA_len r (cur ++ [c])
   simp only [List.length_cons]
   omega
theorem linA_mem : ∀ (l cur : List UInt8), ∀ x ∈ linA cur l, x.length ≤ cur.length + l.length
 | [], cur, x, h => by unfold linA at h; simp at h
 | c :: r, cur, x, h => by
  unfold linA at h
  split at h
  ·rcases List.mem_cons.1 h with rfl | h
   ·simp
   ·have := linA_mem r [] x h
    simp only [List.length_cons, List.length_nil] at this ⊢
    omega
  ·have := linA_mem r (cur ++ [c]) x h
   simp only [List.length_append, List.length_cons, List.length_nil] at this ⊢
   omega
theorem linF_len (l : List UInt8) : (linF l).length ≤ l.length := by unfold linF; split; (exact linA_len l []); simp
theorem linF_mem (l : List UInt8) : ∀ x ∈ linF l, x.length ≤ l.length := by
 unfold linF
 split
 ·intro x hx
  have := linA_mem l [] x hx
  simpa using this
 ·intro x hx
  simp at hx
theorem linA_line {a : List UInt8} (ha : ∀ c ∈ a, c ≠ 10) : ∀ (cur r : List UInt8), linA cur (a ++ 10 :: r) = (cur ++ a) :: linA [] r := by
 induction a with
 | nil => intro cur r; show linA cur (10 :: r) = _; rw [linA, if_pos rfl, List.append_nil]
 | cons c a ih =>
  intro cur r
  show linA cur (c :: (a ++ 10 :: r)) = _
  rw [linA, if_neg (ha c (List.mem_cons_self ..)), ih (fun d hd => ha d (List.mem_cons_of_mem _ hd))]
  simp
theorem refLines_any (s : ByteArray) (w : World) (hs : s.size ≤ 4194304) :
 Calls Tryz.prog 24 #[.string s] w fun e w' => (∃ v, e = .returned v ∧ Hid (w'.ownsRow w.heap.size 9 1 v (linF s.data.toList).length (sv (linF s.data.toList)))) ∧ Below w.heap.size w w' := by
 obtain ⟨l, hl⟩ : ∃ l, s.data.toList = l := ⟨_, rfl⟩
 have HL : Hid (s.data.toList = l) := hl
 have HZ : Hid (s.size = l.length) := by rw [← hl]; exact Lib.size_eq s
 rw [hl]
 clear hl
 obtain ⟨R, hR⟩ : ∃ R, linF l = R := ⟨_, rfl⟩
 have HR : Hid (linF l = R) := hR
 rw [hR]
 clear hR
 by_cases h0 : l = []
 ·have he : s.toList.isEmpty = true := by rw [toL, HL.out, h0]; rfl
  have HR0 : Hid (R = []) := by rw [← HR.out, h0]; rfl
  clear h0
  go_enter Tryz.func24, Tryz.ntmps24
  go_wp2
  go_ret
  exact ⟨⟨_, rfl, by rw [HR0.out]; exact World.ownsRow_nil _ _ _ _⟩, Below.refl _ _⟩
 ·have he : s.toList.isEmpty = false := by rw [toL, HL.out]; simpa using h0
  have hl0 := List.length_pos_iff.2 h0
  have hlt : s.size - 1 < s.size := by have := HZ.out; omega
  obtain ⟨n, hn⟩ : ∃ n, s.size = n + 1 := ⟨s.size - 1, by omega⟩
  have HNZ : Hid (s.size = n + 1) := hn
  have hn0 : (0 : Int) ≤ (n : Int) := by omega
  have hn1 : (n : Int) < (s.size : Int) := by omega
  have hnw : IntKind.i64.wrap ((s.size : Int) - 1) = (n : Int) := by rw [IntKind.wrap_i64]; omega
  have hnlt : n < s.size := by omega
  obtain ⟨c, hc⟩ : ∃ c, s[n]'hnlt = c := ⟨_, rfl⟩
  have HCL : Hid (l.getLast? = some c) := by
   show l.getLast? = some c
   have hnl : n < l.length := by have := HZ.out; omega
   rw [List.getLast?_eq_getElem?, show l.length - 1 = n by have := HZ.out; omega, List.getElem?_eq_getElem hnl, ← hc]
   have := HL.out
   subst this
   rfl
  by_cases h10 : c = 10
  ·have hcv : ((c.toNat : Int) != 10) = false := by rw [h10]; rfl
   have HR2 : Hid (linA [] l = R) := by
    show _ = _
    rw [← HR.out]
    unfold linF
    rw [if_pos (by rw [HCL.out, h10])]
   clear h10 h0 hl0 hlt hn
   go_enter Tryz.func24, Tryz.ntmps24
   go_wp2
   go_loopw [3, 4, 5] (fun v f i wr => ∃ (k a : Nat) (out : List (List UInt8)), a ≤ k ∧ k ≤ s.size ∧ i = .int .i64 (k : Int) ∧ f = .int .i64 (a : Int) ∧ out.length ≤ k ∧ Hid (out ++ linA ((l.take k).drop a) (l.drop k) = R) ∧ Hid (wr.ownsRow w.heap.size 9 1 v out.length (sv out)) ∧ Hid (Below w.heap.size w wr)) (fun _ _ i _ => s.size - (intOf i).toNat)
   case atStart => exact ⟨0, 0, [], Nat.le_refl _, by omega, rfl, rfl, by simp, by show [] ++ linA ((l.take 0).drop 0) (l.drop 0) = R; rw [← HR2.out]; rfl, World.ownsRow_nil _ _ _ _, Below.refl _ _⟩
   case round =>
    clear HR2 hc hcv
    obtain ⟨k, a, out, hak, hk, rfl, rfl, hol, hx, ho, hB⟩ := hrel
    have k0 : (0 : Int) ≤ (k : Int) := by omega
    have k2 : (k : Int) ≤ (s.size : Int) := by omega
    have a0 : (0 : Int) ≤ (a : Int) := by omega
    have a1 : (a : Int) ≤ (k : Int) := by omega
    have hzb := hB.out.size
    have R1 : ∀ wx : World, (Instr.slice 9 (.string s) (some (.int .i64 (a : Int))) (some (.int .i64 (k : Int))) none).run Tryz.prog wx = .ok (.string (bk ((l.take k).drop a))) wx := fun wx => by
     have e1 := ext_mid s a k
     rw [HL.out] at e1
     rw [← e1]
     simp [go_sem, Tryz.underlying9, a0, a1, k2]
    by_cases hlt : k < s.size
    ·have k1 : (k : Int) < (s.size : Int) := by omega
     have hkl : k < l.length := by have := HZ.out; omega
     obtain ⟨d, hd⟩ : ∃ d, s[k]'hlt = d := ⟨_, rfl⟩
     have hcl : l[k] = d := by
      rw [← hd]
      have := HL.out
      subst this
      rfl
     have hdr : l.drop k = d :: l.drop (k + 1) := by rw [List.drop_eq_getElem_cons hkl, hcl]
     have htk : (l.take (k + 1)).drop a = (l.take k).drop a ++ [d] := by
      rw [List.take_succ_eq_append_getElem hkl, hcl, List.drop_append_of_le_length (by rw [List.length_take]; omega)]
     by_cases h32 : d = 10
     ·have HX : Hid ((out ++ [(l.take k).drop a]) ++ linA ((l.take (k + 1)).drop (k + 1)) (l.drop (k + 1)) = R) := by
       show _ = _
       have hnil : (l.take (k + 1)).drop (k + 1) = [] := List.drop_eq_nil_of_le (by rw [List.length_take]; omega)
       rw [hnil, ← hx.out, hdr, linA, if_pos h32, List.append_assoc]
       rfl
      have hcv : ((d.toNat : Int) == 10) = true := by rw [h32]; rfl
      generalize (l.take k).drop a = wd at R1 HX
      clear hx hdr htk hcl h32
      go_wp2_with (first
       | (at_builtin; refine wpList_appStr (by rfl) _ _ (by rfl) w.heap.size _ out out.length rfl wd (by rfl) (by rfl) ho (by omega) hzb ?_; intro v2 w2 ho2 hk2)
       | go_in)
      exact ⟨⟨k + 1, k + 1, out ++ [wd], Nat.le_refl _, by omega, by go_num, by go_num, by rw [List.length_append, List.length_singleton]; omega, HX, by rw [List.length_append]; exact ho2, hB.out.trans hk2.out.1⟩, by simp [intOf]; omega⟩
     ·have HX : Hid (out ++ linA ((l.take (k + 1)).drop a) (l.drop (k + 1)) = R) := by
       show _ = _
       rw [← hx.out, hdr, linA, if_neg h32, htk]
      have hcv : ((d.toNat : Int) == 10) = false := by
       rw [beq_eq_false_iff_ne]
       intro e
       exact h32 (UInt8.toNat_inj.1 (by show d.toNat = 10; omega))
      clear hx hdr htk hcl h32 R1
      go_wp2
      exact ⟨⟨k + 1, a, out, by omega, by omega, by go_num, rfl, by omega, HX, ho, hB⟩, by simp [intOf]; omega⟩
    ·obtain rfl : k = s.size := by omega
     have HX : Hid (out = R) := by
      show _ = _
      have hnil : l.drop s.size = [] := List.drop_eq_nil_of_le (by have := HZ.out; omega)
      rw [← hx.out, hnil, linA, List.append_nil]
     clear hx R1
     go_wp2
     go_ret
     exact ⟨⟨_, rfl, by rw [← HX.out]; exact ho⟩, hB.out⟩
  ·have hcv : ((c.toNat : Int) != 10) = true := by
    rw [bne_iff_ne]
    intro e
    exact h10 (UInt8.toNat_inj.1 (by show c.toNat = 10; omega))
   have HR0 : Hid (R = []) := by
    show _ = _
    rw [← HR.out]
    unfold linF
    rw [if_neg]
    rw [HCL.out]
    intro e
    exact h10 (Option.some.inj e)
   clear h10 h0 hl0 hlt hn
   go_enter Tryz.func24, Tryz.ntmps24
   go_wp2
   go_ret
   exact ⟨⟨_, rfl, by rw [HR0.out]; exact World.ownsRow_nil _ _ _ _⟩, Below.refl _ _⟩
def strF : List UInt8 → Nat × List UInt8
 | a :: b :: r => if a = 32 ∧ b = 32 then ((strF r).1 + 1, (strF r).2) else (0, a :: b :: r)
 | l => (0, l)
def atF (l : List UInt8) : Nat → Nat
 | 0 => 0
 | n + 1 => if l.getD n 0 = 64 then n + 1 else atF l n
theorem atF_le (l : List UInt8) : ∀ n, atF l n ≤ n
 | 0 => Nat.le_refl _
 | n + 1 => by
  unfold atF
  split
  ·exact Nat.le_refl _
  ·have := atF_le l n; omega
def RowR (line : List UInt8) (x : Nd) (d : Nat) : Prop := 2 ≤ atF (strF line).2 (strF line).2.length ∧ d = (strF line).1 ∧ ∃ y, SeemR ((strF line).2.take (atF (strF line).2 (strF line).2.length - 2)) y ∧ x = { y with pos := numF 0 ((strF line).2.drop (atF (strF line).2 (strF line).2.length)) }
theorem strF_blk {t : List UInt8} (ht : ∀ r, t ≠ 32 :: r) : ∀ d, strF (blk d ++ t) = (d, t)
 | 0 => by
  show strF t = (0, t)
  match t with
  | [] => rfl
  | [a] => rfl
  | a :: b :: r =>
   have : ¬ (a = 32 ∧ b = 32) := fun h => ht (b :: r) (by rw [h.1])
   rw [strF, if_neg this]
 | d + 1 => by
  have e : blk (d + 1) ++ t = 32 :: 32 :: (blk d ++ t) := by
   unfold blk
   rw [show 2 * (d + 1) = 2 * d + 1 + 1 by omega, List.replicate_succ, List.replicate_succ]
   rfl
  rw [e, strF, if_pos ⟨rfl, rfl⟩, strF_blk ht d]
theorem atF_last {a b : List UInt8} (hb : ∀ c ∈ b, c ≠ 64) : ∀ n, a.length + 1 ≤ n → n ≤ a.length + 1 + b.length → atF (a ++ 64 :: b) n = a.length + 1
 | 0, h, _ => by omega
 | n + 1, h1, h2 => by
  unfold atF
  by_cases e : n = a.length
  ·subst e
   rw [if_pos]
   rw [List.getD_eq_getElem?_getD, List.getElem?_append_right (Nat.le_refl _), Nat.sub_self]
   rfl
  ·rw [if_neg, atF_last hb n (by omega) (by omega)]
   rw [List.getD_eq_getElem?_getD, List.getElem?_append_right (by omega), show n - a.length = (n - a.length - 1) + 1 by omega, List.getElem?_cons_succ, List.getElem?_eq_getElem (by omega)]
   exact hb _ (List.getElem_mem _)
theorem itoa_no64 {v : Int} (h0 : 0 ≤ v) : ∀ c ∈ Lib.itoa v, c ≠ 64 := by
 rw [itoa_nat h0]
 intro c hc e
 have := (dec_digits v.toNat).1 c hc
 subst e
 exact absurd this.2 (by decide)
theorem row_ok {y x : Nd} {d e : Nat} (h : SoundM y) (hx : RowR (blk d ++ (lnB (shp y.kind).1 y ++ [32, 64] ++ Lib.itoa y.pos)) x e) : x = { y with size := 0 } ∧ e = d := by
 have e1 : lnB (shp y.kind).1 y ++ [32, 64] ++ Lib.itoa y.pos = (lnB (shp y.kind).1 y ++ [32]) ++ 64 :: Lib.itoa y.pos := by simp
 have e2 : ∀ r, (lnB (shp y.kind).1 y ++ [32]) ++ 64 :: Lib.itoa y.pos ≠ 32 :: r := by
  rw [List.append_assoc]
  exact lnB_head h.s.kn _
 unfold RowR at hx
 rw [e1, strF_blk e2 d] at hx
 simp only at hx
 have e3 : atF ((lnB (shp y.kind).1 y ++ [32]) ++ 64 :: Lib.itoa y.pos) ((lnB (shp y.kind).1 y ++ [32]) ++ 64 :: Lib.itoa y.pos).length = (lnB (shp y.kind).1 y ++ [32]).length + 1 :=
  atF_last (itoa_no64 h.s.p0) _ (by simp only [List.length_append, List.length_cons, List.length_nil]; omega) (by simp only [List.length_append, List.length_cons, List.length_nil]; omega)
 rw [e3] at hx
 obtain ⟨_, rfl, z, hz, rfl⟩ := hx
 have e4 : ((lnB (shp y.kind).1 y ++ [32]) ++ 64 :: Lib.itoa y.pos).take ((lnB (shp y.kind).1 y ++ [32]).length + 1 - 2) = lnB (shp y.kind).1 y := by
  rw [List.length_append, List.length_singleton, show (lnB (shp y.kind).1 y).length + 1 + 1 - 2 = (lnB (shp y.kind).1 y).length by omega, List.append_assoc, List.take_left']
  rfl
 have e5 : ((lnB (shp y.kind).1 y ++ [32]) ++ 64 :: Lib.itoa y.pos).drop ((lnB (shp y.kind).1 y ++ [32]).length + 1) = Lib.itoa y.pos := by
  rw [show (lnB (shp y.kind).1 y ++ [32]) ++ 64 :: Lib.itoa y.pos = ((lnB (shp y.kind).1 y ++ [32]) ++ [64]) ++ Lib.itoa y.pos by simp]
  exact List.drop_left' (by simp)
 rw [e4] at hz
 rw [e5, seem_ok h hz, numF_itoa h.s.p0 h.s.p1]
 exact ⟨rfl, rfl⟩
theorem lin_flat : ∀ (ps : List (Nd × Nat)), (∀ p ∈ ps, Sound p.1) → linA [] (flatP ps) = ps.map fun p => blk p.2 ++ (lnB (shp p.1.kind).1 p.1 ++ [32, 64] ++ Lib.itoa p.1.pos)
 | [], _ => rfl
 | (x, d) :: ps, h => by
  have e : flatP ((x, d) :: ps) = (blk d ++ (lnB (shp x.kind).1 x ++ [32, 64] ++ Lib.itoa x.pos)) ++ 10 :: flatP ps := by
   show (blk d ++ lnS x) ++ flatP ps = _
   unfold lnS
   simp
  rw [e, linA_line (line_no10 (h (x, d) (List.mem_cons_self ..)) d), lin_flat ps (fun p hp => h p (List.mem_cons_of_mem _ hp))]
  rfl
theorem flat_last {ps : List (Nd × Nat)} (h : ps ≠ []) : (flatP ps).getLast? = some 10 := by
 obtain ⟨qs, q, rfl⟩ : ∃ qs q, ps = qs ++ [q] := ⟨ps.dropLast, ps.getLast h, (List.dropLast_concat_getLast h).symm⟩
 have e : flatP (qs ++ [q]) = (flatP qs ++ (blk q.2 ++ (lnB (shp q.1.kind).1 q.1 ++ [32, 64] ++ Lib.itoa q.1.pos))) ++ [10] := by
  unfold flatP
  rw [List.flatMap_append]
  unfold lnS
  simp
 rw [e]
 exact List.getLast?_concat
theorem fill_len {w f : List UInt8} (h : fillS w = some f) : f.length ≤ w.length := by
 unfold fillS at h
 split at h
 ·cases h
 ·split at h
  ·cases h; simp
  ·cases h; exact Nat.le_refl _
theorem rdW_len {on : Prop} [Decidable on] {r f r' : List UInt8} (h : rdW on r = some (f, r')) : f.length ≤ r.length ∧ r'.length ≤ r.length := by
 unfold rdW at h
 split at h
 ·obtain ⟨⟨a, b⟩, h1, h2⟩ := Option.bind_eq_some_iff.1 h
  obtain ⟨g, h3, h4⟩ := Option.map_eq_some_iff.1 h2
  cases h4
  have := nxt_len h1
  have := fill_len h3
  simp only at *
  omega
 ·cases h
  simp
theorem rdN_len {on : Prop} [Decidable on] {r r' : List UInt8} {v : Int} (h : rdN on r = some (v, r')) : r'.length ≤ r.length := by
 unfold rdN at h
 split at h
 ·obtain ⟨⟨a, b⟩, h1, h2⟩ := Option.bind_eq_some_iff.1 h
  obtain ⟨g, h3, h4⟩ := Option.map_eq_some_iff.1 h2
  cases h4
  exact (nxt_len h1).2
 ·cases h
  exact Nat.le_refl _
theorem rdT_len {on : Prop} [Decidable on] {r t r' : List UInt8} (h : rdT on r = some (t, r')) : t.length ≤ 200 := by
 unfold rdT at h
 split at h
 ·obtain ⟨g, h3, h4⟩ := Option.map_eq_some_iff.1 h
  cases h4
  exact (txt_sound h3).2
 ·cases h
  simp
def FineN (x : Nd) : Prop := x.name.size ≤ 140737488355328 ∧ x.label.size ≤ 140737488355328 ∧ x.typ.size ≤ 140737488355328 ∧ x.text.size ≤ 140737488355328
theorem words_fine {told : List UInt8} {x : Nd} (ht : told.length ≤ 4194304) (h : wordsS told = some x) : FineN x := by
 unfold wordsS at h
 obtain ⟨k, _, h⟩ := Option.bind_eq_some_iff.1 h
 obtain ⟨⟨lb, r1⟩, h1, h⟩ := Option.bind_eq_some_iff.1 h
 obtain ⟨⟨it, r2⟩, h2, h⟩ := Option.bind_eq_some_iff.1 h
 obtain ⟨⟨nm, r3⟩, h3, h⟩ := Option.bind_eq_some_iff.1 h
 obtain ⟨⟨ty, r4⟩, h4, h⟩ := Option.bind_eq_some_iff.1 h
 obtain ⟨⟨op, r5⟩, _, h⟩ := Option.bind_eq_some_iff.1 h
 obtain ⟨⟨tx, r6⟩, h6, h⟩ := Option.bind_eq_some_iff.1 h
 simp only at h1 h2 h3 h4 h6 h
 have e0 := fst_len told
 have e1 := rdW_len h1
 have e2 := rdN_len h2
 have e3 := rdW_len h3
 have e4 := rdW_len h4
 have e6 := rdT_len h6
 split at h
 ·cases h
  refine ⟨?_, ?_, ?_, ?_⟩
  all_goals
   rw [Lib.size_eq]
   show (List.toArray _).toList.length ≤ _
   simp only
   omega
 ·cases h
theorem line_fine {line : List UInt8} {x : Nd} {d : Nat} (hl : line.length ≤ 4194304) (h : lineS line = some (x, d)) : FineN x := by
 unfold lineS at h
 split at h
 ·cases h
 ·obtain ⟨⟨a, b⟩, h1, h⟩ := Option.bind_eq_some_iff.1 h
  obtain ⟨y, h2, h⟩ := Option.bind_eq_some_iff.1 h
  obtain ⟨v, h3, h⟩ := Option.map_eq_some_iff.1 h
  cases h
  have e1 := congrArg List.length (last_sound h1)
  rw [List.length_append] at e1
  have e2 := told_le line
  exact (words_fine (by simp only; omega) h2 :)
theorem mkL_fine {acc : List (Nd × Nat)} (hl : acc.length ≤ 4194304) (h : ∀ p ∈ acc, FineN p.1) : Fine (mkL acc) := by
 refine ⟨by rw [mkL_len]; omega, fun i hi => ?_⟩
 rw [mkL_len] at hi
 rw [mkL_nd acc hi]
 refine h (acc.getD i default) ?_
 rw [List.getD_eq_getElem?_getD, List.getElem?_eq_getElem hi]
 exact List.getElem_mem hi
theorem cut_cases : ∀ l : List UInt8, (Lib.index l [10] = -1 ∧ cut10 l = none) ∨ ∃ k : Nat, Lib.index l [10] = (k : Int) ∧ k < l.length ∧ cut10 l = some (l.take k, l.drop (k + 1))
 | [] => Or.inl ⟨rfl, rfl⟩
 | c :: l => by
  by_cases hc : c = 10
  ·subst hc
   refine Or.inr ⟨0, ?_, by simp, rfl⟩
   show (if _ then (0 : Int) else _) = _
   rw [if_pos (by simp [List.isPrefixOf])]
   rfl
  ·have hb : (c != 10) = true := by simpa using hc
   have hb2 : (10 == c) = false := by simpa using fun e => hc e.symm
   have e2 : Lib.index (c :: l) [10] = if Lib.index l [10] == -1 then -1 else Lib.index l [10] + 1 := by
    show (if _ then (0 : Int) else _) = _
    rw [if_neg (by simp [List.isPrefixOf, hb2])]
   have e3 : cut10 (c :: l) = (cut10 l).map fun q => (c :: q.1, q.2) := by
    unfold cut10
    simp only [List.dropWhile_cons, List.takeWhile_cons, hb, if_true]
    cases List.dropWhile (fun c => c != 10) l <;> rfl
   rcases cut_cases l with ⟨h1, h2⟩ | ⟨k, h1, h2, h3⟩
   ·exact Or.inl ⟨by rw [e2, h1]; rfl, by rw [e3, h2]; rfl⟩
   ·refine Or.inr ⟨k + 1, ?_, by rw [List.length_cons]; omega, by rw [e3, h3]; rfl⟩
    rw [e2, h1, if_neg (by simp)]
    rfl
theorem cut_no {l : List UInt8} (h : cut10 l = none) : Lib.cut l [10] = (l, [], false) := by
 rcases cut_cases l with ⟨h1, _⟩ | ⟨k, _, _, h3⟩
 ·unfold Lib.cut
  rw [h1]
  rfl
 ·rw [h3] at h; cases h
theorem cut_yes {l a b : List UInt8} (h : cut10 l = some (a, b)) : Lib.cut l [10] = (a, b, true) := by
 rcases cut_cases l with ⟨_, h2⟩ | ⟨k, h1, _, h3⟩
 ·rw [h2] at h; cases h
 ·rw [h3] at h
  cases h
  unfold Lib.cut
  rw [h1, if_pos (by omega)]
  rfl
theorem cut_len {l a b : List UInt8} (h : cut10 l = some (a, b)) : a.length + b.length + 1 = l.length := by
 have := congrArg List.length (cut10_sound h)
 rw [List.length_append, List.length_cons] at this
 omega
end Go.Proofs.YtekgnogjfggnmaaGreatDoor
