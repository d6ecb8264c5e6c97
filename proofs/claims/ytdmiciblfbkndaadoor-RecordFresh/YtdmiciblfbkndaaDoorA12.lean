import Derived.Test.YtdmiciblfbkndaaDoorA11
import Derived.Test.YtdmiciblfbkndaaDoorA01
import Derived.Test.YtdmiciblfbkndaaDoorA09
namespace Go.Proofs.YtdmiciblfbkndaaDoor
open Go.RowKit

/-- One byte more in a row of one's own. -/
theorem own_byte {W : World} {B : Nat} {v : Value} {n : Nat} {l : List UInt8} (ho : W.ownsRow B 5 1 v n (Lx.bv l)) (hB : B ≤ W.heap.size) (x : Int) (c : UInt8) (hx : x = (c.toNat : Int)) (hl : n + 1 ≤ 100000000) : ∃ q cp w2,
    (Builtin.append_ #[75, 75] 75 #[v, .slice (some ⟨W.heap.size, 0, none⟩) 1 1]).run Tryd.prog (W.alloc (.cells #[.int .u8 x] 5)) = .ok (.slice q (n + 1) cp) w2 ∧ Hid (w2.ownsRow B 5 1 (.slice q (n + 1) cp) (n + 1) (Lx.bv (l ++ [c])) ∧ Below B W w2) := by
  subst hx
  have bZ : Below W.heap.size W (W.alloc (.cells #[.int .u8 (c.toNat : Int)] 5)) := (Below.refl _ W).alloc (Nat.le_refl _) _
  have oZ := own_next ho bZ
  have fZ : Full (W.alloc (.cells #[.int .u8 (c.toNat : Int)] 5)) W.heap.size 5 [.int .u8 (c.toNat : Int)] := Full.new W _ _
  obtain ⟨lv', w2, r9, o9, g9⟩ := app_any (P := Tryd.prog) 75 75 _ 1 Tryd.underlying75 Lx.info5 rfl (by decide) (by decide) v n _ oZ W.heap.size [.int .u8 (c.toNat : Int)] rfl (by simp [Value.oneCell']) fZ.range (by omega) (Nat.le_trans hB bZ.size)
  obtain ⟨q9, k9, rfl, -, -⟩ := own_slice o9
  exact ⟨q9, k9, w2, r9, by rw [Lx.bv_app]; exact o9, (bZ.mono hB).trans ((Below.refl B _).grown g9 (Nat.le_trans hB bZ.size) (own_ge oZ))⟩
set_option maxRecDepth 100000 in
set_option maxHeartbeats 1000000 in
theorem fixed4 (W : World) (n : Nat) (hn : n < 4294967296) :
    Calls Tryd.prog 54 #[.int .i64 (n : Int), .int .i64 4] W fun e w' => e = .returned (.string ⟨(fxS n 4).toArray⟩) ∧ Below W.heap.size W w' := by
  have q0 : (0 : Int) ≤ (n : Int) := by omega
  go_enter Tryd.func54, Tryd.ntmps54
  go_wp2_with fail
  go_loopw [1, 5] (fun j v wr => ∃ (t : Nat) (q : Option Addr) (cp : Nat), t ≤ 4 ∧ j = .int .i64 (3 - (t : Int)) ∧ v = .slice q t cp ∧ Hid (wr.ownsRow W.heap.size 5 1 (.slice q t cp) t (Lx.bv ((fxS n 4).take t)) ∧ Below W.heap.size W wr)) (fun j _ _ => (intOf j + 1).toNat)
  case atStart => exact ⟨0, none, 0, by omega, by go_num, rfl, ⟨rfl, .inl ⟨rfl, rfl⟩⟩, Below.refl _ _⟩
  case round =>
    obtain ⟨t, q, cp, ht, rfl, rfl, HO⟩ := hrel
    have hc : t = 0 ∨ t = 1 ∨ t = 2 ∨ t = 3 ∨ t = 4 := by omega
    rcases hc with rfl | rfl | rfl | rfl | rfl
    · obtain ⟨q2, cp2, w2, hr, HO2⟩ := own_byte HO.out.1 HO.out.2.size ((n : Int) / 16777216) (UInt8.ofNat (n / 256 ^ 3)) (by rw [UInt8.toNat_ofNat']; omega) (by omega)
      have HO3 : Hid (w2.ownsRow W.heap.size 5 1 (.slice q2 1 cp2) 1 (Lx.bv ((fxS n 4).take 1)) ∧ Below W.heap.size W w2) := ⟨HO2.out.1, HO.out.2.trans HO2.out.2⟩
      clear HO HO2
      go_wp2_with (at_builtin; refine wpList_run rfl _ _ _ _ _ _ _ hr (by rfl) (by rfl) (by rfl) (by rfl) ?_)
      exact ⟨⟨1, q2, cp2, by omega, by go_num, rfl, HO3⟩, by simp [intOf]⟩
    · obtain ⟨q2, cp2, w2, hr, HO2⟩ := own_byte HO.out.1 HO.out.2.size ((n : Int) / 65536 % 256) (UInt8.ofNat (n / 256 ^ 2)) (by rw [UInt8.toNat_ofNat']; omega) (by omega)
      have HO3 : Hid (w2.ownsRow W.heap.size 5 1 (.slice q2 2 cp2) 2 (Lx.bv ((fxS n 4).take 2)) ∧ Below W.heap.size W w2) := ⟨HO2.out.1, HO.out.2.trans HO2.out.2⟩
      clear HO HO2
      go_wp2_with (at_builtin; refine wpList_run rfl _ _ _ _ _ _ _ hr (by rfl) (by rfl) (by rfl) (by rfl) ?_)
      exact ⟨⟨2, q2, cp2, by omega, by go_num, rfl, HO3⟩, by simp [intOf]⟩
    · obtain ⟨q2, cp2, w2, hr, HO2⟩ := own_byte HO.out.1 HO.out.2.size ((n : Int) / 256 % 256) (UInt8.ofNat (n / 256 ^ 1)) (by rw [UInt8.toNat_ofNat']; omega) (by omega)
      have HO3 : Hid (w2.ownsRow W.heap.size 5 1 (.slice q2 3 cp2) 3 (Lx.bv ((fxS n 4).take 3)) ∧ Below W.heap.size W w2) := ⟨HO2.out.1, HO.out.2.trans HO2.out.2⟩
      clear HO HO2
      go_wp2_with (at_builtin; refine wpList_run rfl _ _ _ _ _ _ _ hr (by rfl) (by rfl) (by rfl) (by rfl) ?_)
      exact ⟨⟨3, q2, cp2, by omega, by go_num, rfl, HO3⟩, by simp [intOf]⟩
    · obtain ⟨q2, cp2, w2, hr, HO2⟩ := own_byte HO.out.1 HO.out.2.size ((n : Int) % 256) (UInt8.ofNat (n / 256 ^ 0)) (by rw [UInt8.toNat_ofNat']; omega) (by omega)
      have HO3 : Hid (w2.ownsRow W.heap.size 5 1 (.slice q2 4 cp2) 4 (Lx.bv ((fxS n 4).take 4)) ∧ Below W.heap.size W w2) := ⟨HO2.out.1, HO.out.2.trans HO2.out.2⟩
      clear HO HO2
      go_wp2_with (at_builtin; refine wpList_run rfl _ _ _ _ _ _ _ hr (by rfl) (by rfl) (by rfl) (by rfl) ?_)
      exact ⟨⟨4, q2, cp2, by omega, by go_num, rfl, HO3⟩, by simp [intOf]⟩
    · have hcv := Lx.conv_own HO.out.1
      go_wp2_with fail
      go_ret
      exact ⟨rfl, HO.out.2⟩
set_option maxRecDepth 100000 in
set_option maxHeartbeats 1000000 in
theorem fixed2 (W : World) (n : Nat) (hn : n < 65536) :
    Calls Tryd.prog 54 #[.int .i64 (n : Int), .int .i64 2] W fun e w' => e = .returned (.string ⟨(fxS n 2).toArray⟩) ∧ Below W.heap.size W w' := by
  have q0 : (0 : Int) ≤ (n : Int) := by omega
  go_enter Tryd.func54, Tryd.ntmps54
  go_wp2_with fail
  go_loopw [1, 5] (fun j v wr => ∃ (t : Nat) (q : Option Addr) (cp : Nat), t ≤ 2 ∧ j = .int .i64 (1 - (t : Int)) ∧ v = .slice q t cp ∧ Hid (wr.ownsRow W.heap.size 5 1 (.slice q t cp) t (Lx.bv ((fxS n 2).take t)) ∧ Below W.heap.size W wr)) (fun j _ _ => (intOf j + 1).toNat)
  case atStart => exact ⟨0, none, 0, by omega, by go_num, rfl, ⟨rfl, .inl ⟨rfl, rfl⟩⟩, Below.refl _ _⟩
  case round =>
    obtain ⟨t, q, cp, ht, rfl, rfl, HO⟩ := hrel
    have hc : t = 0 ∨ t = 1 ∨ t = 2 := by omega
    rcases hc with rfl | rfl | rfl
    · obtain ⟨q2, cp2, w2, hr, HO2⟩ := own_byte HO.out.1 HO.out.2.size ((n : Int) / 256) (UInt8.ofNat (n / 256 ^ 1)) (by rw [UInt8.toNat_ofNat']; omega) (by omega)
      have HO3 : Hid (w2.ownsRow W.heap.size 5 1 (.slice q2 1 cp2) 1 (Lx.bv ((fxS n 2).take 1)) ∧ Below W.heap.size W w2) := ⟨HO2.out.1, HO.out.2.trans HO2.out.2⟩
      clear HO HO2
      go_wp2_with (at_builtin; refine wpList_run rfl _ _ _ _ _ _ _ hr (by rfl) (by rfl) (by rfl) (by rfl) ?_)
      exact ⟨⟨1, q2, cp2, by omega, by go_num, rfl, HO3⟩, by simp [intOf]⟩
    · obtain ⟨q2, cp2, w2, hr, HO2⟩ := own_byte HO.out.1 HO.out.2.size ((n : Int) % 256) (UInt8.ofNat (n / 256 ^ 0)) (by rw [UInt8.toNat_ofNat']; omega) (by omega)
      have HO3 : Hid (w2.ownsRow W.heap.size 5 1 (.slice q2 2 cp2) 2 (Lx.bv ((fxS n 2).take 2)) ∧ Below W.heap.size W w2) := ⟨HO2.out.1, HO.out.2.trans HO2.out.2⟩
      clear HO HO2
      go_wp2_with (at_builtin; refine wpList_run rfl _ _ _ _ _ _ _ hr (by rfl) (by rfl) (by rfl) (by rfl) ?_)
      exact ⟨⟨2, q2, cp2, by omega, by go_num, rfl, HO3⟩, by simp [intOf]⟩
    · have hcv := Lx.conv_own HO.out.1
      go_wp2_with fail
      go_ret
      exact ⟨rfl, HO.out.2⟩
end Go.Proofs.YtdmiciblfbkndaaDoor

namespace Go.Proofs.YtdmiciblfbkndaaDoor
open Go.RowKit

/-- The table of sums lies. -/
def SumT (W : World) : Prop := ∀ k, k < 16 → W.cell? ⟨0, k, none⟩ = some (.int .u32 ((crcT.getD k 0#32).toNat : Int))
theorem SumT.next {W W' : World} (h : SumT W) (hb : Below W.heap.size W W') : SumT W' := fun k hk => by
  have := h k hk
  exact (hb.cell (p := ⟨0, k, none⟩) (World.block_lt_of_cell? W _ this)).trans this
theorem xor32 (a b : BitVec 32) : bits .xor .u32 (a.toNat : Int) (b.toNat : Int) = ((a ^^^ b).toNat : Int) := by
  unfold bits
  show IntKind.u32.wrap (((BitVec.ofInt 32 (a.toNat : Int) ^^^ BitVec.ofInt 32 (b.toNat : Int)).toNat : Nat) : Int) = _
  have e : ∀ x : BitVec 32, BitVec.ofInt 32 (x.toNat : Int) = x := fun x => by rw [BitVec.ofInt_natCast, BitVec.ofNat_toNat, BitVec.setWidth_eq]
  rw [e, e, IntKind.wrap_u32]
  have := (a ^^^ b).isLt
  omega
theorem and15_all (a : BitVec 32) : bits .and .u32 (a.toNat : Int) 15 = ((a.toNat % 16 : Nat) : Int) := by
  have h := bits_mask .u32 32 (by decide) wraps_u32 4 (by decide) (a.toNat : Int) (by omega) (by have := a.isLt; omega)
  have e2 : ((2 : Int) ^ 4) = 16 := by decide
  simp only [e2] at h
  rw [show (15 : Int) = 16 - 1 by decide, h]
  omega
/-- Half a byte of the sum. -/
theorem crc_half (r : BitVec 32) : bits .xor .u32 ((r.toNat : Int) / 16) ((crcT.getD (r.toNat % 16) 0#32).toNat : Int) = ((crcN r).toNat : Int) := by
  have e : ((r.toNat : Int) / (16 : Int)) = ((r >>> 4).toNat : Int) := by rw [BitVec.toNat_ushiftRight, Nat.shiftRight_eq_div_pow]; omega
  rw [e, xor32]
  rfl
theorem crcR_next (b : List UInt8) (i : Nat) (c : UInt8) (h : b[i]? = some c) : crcR (b.take (i + 1)) = crcB (crcR (b.take i)) c := by
  unfold crcR
  rw [List.take_add_one, h]
  simp
theorem crcT_lt (k : Nat) : (crcT.getD k 0#32).toNat < 4294967296 := (crcT.getD k 0#32).isLt
/-- One byte of the sum, as the walk meets it. -/
theorem crc_step (W : World) (h : SumT W) (r : BitVec 32) (c : UInt8) : ∃ r1 k1 t1 r2 k2 t2 : Nat, bits .xor .u32 (r.toNat : Int) (c.toNat : Int) = (r1 : Int) ∧ bits .and .u32 (r1 : Int) 15 = (k1 : Int) ∧ k1 < 16 ∧ W.cell? ⟨0, k1, none⟩ = some (.int .u32 (t1 : Int)) ∧ bits .xor .u32 ((r1 : Int) / 16) (t1 : Int) = (r2 : Int) ∧ bits .and .u32 (r2 : Int) 15 = (k2 : Int) ∧ k2 < 16 ∧ W.cell? ⟨0, k2, none⟩ = some (.int .u32 (t2 : Int)) ∧ bits .xor .u32 ((r2 : Int) / 16) (t2 : Int) = ((crcB r c).toNat : Int) ∧ r1 < 4294967296 ∧ r2 < 4294967296 := by
  have e : ((c.toNat : Nat) : Int) = ((BitVec.ofNat 32 c.toNat).toNat : Int) := by
    rw [BitVec.toNat_ofNat]
    have := UInt8.toNat_lt c
    omega
  refine ⟨(r ^^^ BitVec.ofNat 32 c.toNat).toNat, (r ^^^ BitVec.ofNat 32 c.toNat).toNat % 16, (crcT.getD ((r ^^^ BitVec.ofNat 32 c.toNat).toNat % 16) 0#32).toNat, (crcN (r ^^^ BitVec.ofNat 32 c.toNat)).toNat, (crcN (r ^^^ BitVec.ofNat 32 c.toNat)).toNat % 16, (crcT.getD ((crcN (r ^^^ BitVec.ofNat 32 c.toNat)).toNat % 16) 0#32).toNat, ?_, and15_all _, by omega, h _ (by omega), crc_half _, and15_all _, by omega, h _ (by omega), crc_half _, BitVec.isLt _, BitVec.isLt _⟩
  rw [e, xor32]
set_option maxRecDepth 100000 in
set_option maxHeartbeats 1000000 in
theorem sum_any (W : World) (s : ByteArray) (hT : SumT W) (hs : s.size ≤ 140737488355328) :
    Calls Tryd.prog 55 #[.string s] W fun e w' => e = .returned (.int .u32 (sumS s.data.toList : Int)) ∧ w' = W := by
  have HT : Hid (SumT W) := hT
  have hsz : Hid (s.size = s.data.toList.length) := Lib.size_eq s
  have hq : (s.size : Int) ≤ 9223372036854775807 := by omega
  clear hT
  go_enter Tryd.func55, Tryd.ntmps55
  go_wp2_with fail
  go_loopw [3, 7] (fun v ix wr => ∃ (i r : Nat), ix = .int .i64 (i : Int) ∧ i ≤ s.size ∧ wr = W ∧ v = .int .u32 (r : Int) ∧ Hid (r = (crcR (s.data.toList.take i)).toNat)) (fun _ ix _ => s.size - (intOf ix).toNat)
  case atStart => exact ⟨0, 4294967295, rfl, Nat.zero_le _, rfl, rfl, rfl⟩
  case round =>
    obtain ⟨i, r, rfl, hi, rfl, rfl, HRr⟩ := hrel
    have hi0 : (0 : Int) ≤ (i : Int) := by omega
    by_cases hend : i = s.size
    · have HX : Hid (bits BinOp.xor IntKind.u32 IntKind.u32.max (r : Int) = (sumS s.data.toList : Int)) := by
        show bits BinOp.xor IntKind.u32 4294967295 (r : Int) = _
        have h1 := HRr.out
        rw [hend, hsz.out, List.take_length] at h1
        rw [h1]
        exact xor32 (0xffffffff#32) (crcR s.data.toList)
      subst hend
      clear HRr hsz
      go_wp2
      go_ret
      exact ⟨congrArg (fun x => Ending.returned (.int .u32 x)) HX.out, rfl⟩
    · have hlt : i < s.size := by omega
      have hil : (i : Int) < (s.size : Int) := by omega
      obtain ⟨c, hc⟩ : ∃ c, s[i]'hlt = c := ⟨_, rfl⟩
      have hcl : s.data.toList[i]? = some c := by rw [List.getElem?_eq_getElem (by rw [← hsz.out]; exact hlt), ← hc]; rfl
      have hct := UInt8.toNat_lt c
      obtain ⟨r1, k1, t1, r2, k2, t2, e1, e2, b1, c1, e3, e4, b2, c2, e5, b3, b4⟩ := crc_step wr HT.out (crcR (s.data.toList.take i)) c
      rw [← HRr.out] at e1
      obtain ⟨r3, hr3⟩ : ∃ r3, (crcB (crcR (s.data.toList.take i)) c).toNat = r3 := ⟨_, rfl⟩
      rw [hr3] at e5
      have HN : Hid (r3 = (crcR (s.data.toList.take (i + 1))).toNat) := by
        show r3 = _
        rw [crcR_next _ _ _ hcl, hr3]
      have b1i : (k1 : Int) < 16 := by omega
      have b2i : (k2 : Int) < 16 := by omega
      have b1z : (0 : Int) ≤ (k1 : Int) := by omega
      have b2z : (0 : Int) ≤ (k2 : Int) := by omega
      clear hend hcl hr3 HRr HT
      go_wp2
      exact ⟨⟨i + 1, r3, by go_num, by omega, trivial, rfl, HN⟩, by simp [intOf]; omega⟩
end Go.Proofs.YtdmiciblfbkndaaDoor

namespace Go.Proofs.YtdmiciblfbkndaaDoor
open Go.RowKit

theorem cat_list (a b : ByteArray) : (a ++ b).data.toList = a.data.toList ++ b.data.toList := by rw [ByteArray.data_append]; simp
theorem ba_of {s : ByteArray} {l : List UInt8} (h : s.data.toList = l) : s = ⟨l.toArray⟩ := ByteArray.ext (Array.ext' (by rw [h]))
theorem ba_size (l : List UInt8) : (⟨l.toArray⟩ : ByteArray).size = l.length := by rw [Lib.size_eq]
set_option maxRecDepth 100000 in
set_option maxHeartbeats 1000000 in
theorem chunk_any (W : World) (s : ByteArray) (hT : SumT W) (hs : s.size ≤ 1000000000) :
    Calls Tryd.prog 35 #[.string s] W fun e w' => e = .returned (.string ⟨(chS s.data.toList).toArray⟩) ∧ Below W.heap.size W w' := by
  have HT : Hid (SumT W) := hT
  have hsz : Hid (s.size = s.data.toList.length) := Lib.size_eq s
  have HC := fixed4 W s.size (by omega)
  clear hT
  go_enter Tryd.func35, Tryd.ntmps35
  go_wp2_with fail
  refine HC.mono ?_
  rintro e w1 ⟨rfl, hb1⟩
  have hl4 : (⟨(fxS s.size 4).toArray⟩ : ByteArray).size = 4 := by rw [ba_size, fxS_len]
  have hz : (⟨(fxS s.size 4).toArray⟩ : ByteArray).size + s.size ≤ 9223372036854775807 := by omega
  obtain ⟨hd, hhd⟩ : ∃ hd : ByteArray, (⟨(fxS s.size 4).toArray⟩ : ByteArray) = hd := ⟨_, rfl⟩
  rw [hhd] at hl4 hz ⊢
  have hbl : (hd ++ s).size = 4 + s.size := by rw [ByteArray.size_append]; omega
  have HB1 : Hid (Below W.heap.size W w1) := hb1
  have HC2 := sum_any w1 (hd ++ s) (HT.out.next hb1) (by omega)
  have HSL := sumS_lt (hd ++ s).data.toList
  have HC3 := fixed4 w1 (sumS (hd ++ s).data.toList) HSL
  clear HC hb1 hbl
  go_wp2_with fail
  refine HC2.mono ?_
  rintro e w2 ⟨rfl, rfl⟩
  have q1 : (0 : Int) ≤ (sumS (hd ++ s).data.toList : Int) := by omega
  have q2 : (sumS (hd ++ s).data.toList : Int) ≤ 9223372036854775807 := by omega
  obtain ⟨sm, hsm⟩ : ∃ sm, sumS (hd ++ s).data.toList = sm := ⟨_, rfl⟩
  rw [hsm] at HC3 HSL q1 q2 ⊢
  clear HC2
  go_wp2_with fail
  refine HC3.mono ?_
  rintro e w3 ⟨rfl, hb3⟩
  have hl5 : (⟨(fxS sm 4).toArray⟩ : ByteArray).size = 4 := by rw [ba_size, fxS_len]
  have hz2 : (hd ++ s).size + (⟨(fxS sm 4).toArray⟩ : ByteArray).size ≤ 9223372036854775807 := by rw [ByteArray.size_append]; omega
  have HV : Hid ((hd ++ s) ++ (⟨(fxS sm 4).toArray⟩ : ByteArray) = ⟨(chS s.data.toList).toArray⟩) := by
    apply ba_of
    rw [cat_list, cat_list, ← hsm, cat_list, ← hhd]
    unfold chS
    rw [← hsz.out]
  have HB3 : Hid (Below W.heap.size W w3) := below2 HB1.out hb3
  clear HC3 hb3 hhd hsm
  go_wp2
  go_ret
  exact ⟨congrArg (fun x => Ending.returned (.string x)) HV.out, HB3.out⟩

/-- A record's cells. -/
abbrev recC (ph tr : Int) (out : ByteArray) (inp : Int) (q : Option Addr) (n cap : Nat) : Array Value := #[.int .i64 ph, .int .i64 tr, .string out, .int .i64 inp, .slice q n cap]
theorem conv3 (X : World) (a b : Int) (c1 c2 : UInt8) (ha : a = (c1.toNat : Int)) (hb : b = (c2.toNat : Int)) : (convert 75 9 (.slice (some ⟨X.heap.size, 0, none⟩) 3 3)).run Tryd.prog (X.alloc (.cells #[.int .u8 2, .int .u8 a, .int .u8 b] 5)) = .ok (.string ⟨#[2, c1, c2]⟩) (X.alloc (.cells #[.int .u8 2, .int .u8 a, .int .u8 b] 5)) := by
  subst ha hb
  exact Lx.conv_own (base := X.heap.size) (n := 3) (l := [2, c1, c2]) ⟨rfl, Or.inr ⟨X.heap.size, 3, _, rfl, Nat.le_refl _, heap_alloc_new X _, Nat.le_refl _, by unfold maxLen; omega, rfl, rfl⟩⟩
set_option maxRecDepth 100000 in
set_option maxHeartbeats 1000000 in
theorem last_any (W : World) (ph tr : Int) (out : ByteArray) (inp : Int) (q : Option Addr) (n cap : Nat) (evs : List Ev) (hn : evs.length = n) (h4 : n < 4294967296) (he : endOk ph tr inp = true) (hs : out.size ≤ 1000000000) :
    Calls Tryd.prog 37 #[.agg (recC ph tr out inp q n cap)] W fun e w' => e = .returned (.string ⟨(lastL ⟨ph, tr, out.data.toList, inp, evs⟩).toArray⟩) ∧ Below W.heap.size W w' := by
  unfold recC
  have hep : (0 ≤ ph ∧ ph ≤ 2) ∧ (0 ≤ tr ∧ tr ≤ 7) ∧ 0 ≤ inp ∧ inp ≤ 1000 := by
    unfold endOk at he
    simp only [Bool.and_eq_true, Bool.or_eq_true, decide_eq_true_eq, beq_iff_eq] at he
    omega
  obtain ⟨h1, h2, h3⟩ := hep
  have hcv := conv3 (W.alloc (.cells #[.int .i64 ph, .int .i64 tr, .string out, .int .i64 inp, .slice q n cap] 28)) (ph % 256) (tr % 256) (UInt8.ofNat ph.toNat) (UInt8.ofNat tr.toNat) (by rw [UInt8.toNat_ofNat']; omega) (by rw [UInt8.toNat_ofNat']; omega)
  obtain ⟨X2, hX2⟩ : ∃ X2, (W.alloc (.cells #[.int .i64 ph, .int .i64 tr, .string out, .int .i64 inp, .slice q n cap] 28)).alloc (.cells #[.int .u8 2, .int .u8 (ph % 256), .int .u8 (tr % 256)] 5) = X2 := ⟨_, rfl⟩
  have f1 : Full X2 W.heap.size 28 [.int .i64 ph, .int .i64 tr, .string out, .int .i64 inp, .slice q n cap] := by
    rw [← hX2]
    exact (Full.new W #[.int .i64 ph, .int .i64 tr, .string out, .int .i64 inp, .slice q n cap] 28).next ((Below.refl _ _).alloc (Nat.le_refl _) _)
  have HB2 : Hid (Below W.heap.size W X2) := by rw [← hX2]; exact ((Below.refl _ W).alloc (Nat.le_refl _) _).alloc (by simp) _
  rw [World.size_alloc, hX2] at hcv
  obtain ⟨s2, hs2⟩ : ∃ s2 : ByteArray, (⟨(fxS inp.toNat 2).toArray⟩ : ByteArray) = s2 := ⟨_, rfl⟩
  obtain ⟨s4, hs4⟩ : ∃ s4 : ByteArray, (⟨(fxS n 4).toArray⟩ : ByteArray) = s4 := ⟨_, rfl⟩
  obtain ⟨hd, hhd⟩ : ∃ hd : ByteArray, (⟨#[2, UInt8.ofNat ph.toNat, UInt8.ofNat tr.toNat]⟩ : ByteArray) = hd := ⟨_, rfl⟩
  have z2 : s2.size = 2 := by rw [← hs2, ba_size, fxS_len]
  have z4 : s4.size = 4 := by rw [← hs4, ba_size, fxS_len]
  have zh : hd.size = 3 := by rw [← hhd]; rfl
  rw [hhd] at hcv
  have p1 : ∀ d os, Calls Tryd.prog 54 #[.int .i64 inp, .int .i64 2] (Sort.grow (redrawn X2 d) os) fun e w'' => e = .returned (.string s2) ∧ ∃ p : Regrown, w'' = Sort.grow (redrawn X2 p.d) p.os := fun d os => by
    have h := fixed2 (Sort.grow (redrawn X2 d) os) inp.toNat (by omega)
    rw [Int.toNat_of_nonneg h3.1, hs2] at h
    exact Calls.regrown_of h
  have p2 : ∀ d os, Calls Tryd.prog 54 #[.int .i64 (n : Int), .int .i64 4] (Sort.grow (redrawn X2 d) os) fun e w'' => e = .returned (.string s4) ∧ ∃ p : Regrown, w'' = Sort.grow (redrawn X2 p.d) p.os := fun d os => by
    have h := fixed4 (Sort.grow (redrawn X2 d) os) n h4
    rw [hs4] at h
    exact Calls.regrown_of h
  have y1 : hd.size + s2.size ≤ 9223372036854775807 := by omega
  have y2 : (hd ++ s2).size + s4.size ≤ 9223372036854775807 := by rw [ByteArray.size_append]; omega
  have y3 : (hd ++ s2 ++ s4).size + out.size ≤ 9223372036854775807 := by rw [ByteArray.size_append, ByteArray.size_append]; omega
  have HV : Hid (hd ++ s2 ++ s4 ++ out = ⟨(lastL ⟨ph, tr, out.data.toList, inp, evs⟩).toArray⟩) := by
    apply ba_of
    rw [cat_list, cat_list, cat_list, ← hhd, ← hs2, ← hs4]
    unfold lastL
    simp only [hn]
  have i2 := cell_regrown (f1.cell 2 _ rfl).1
  have i3 := cell_regrown (f1.cell 3 _ rfl).1
  have i4 := cell_regrown (f1.cell 4 _ rfl).1
  clear he h1 h2 h3 hn h4 f1 hs2 hs4 hhd z2 z4 zh
  go_enter Tryd.func37, Tryd.ntmps37
  go_upto_region 2 with fail
  refine wp_region_quiet_below (by kernel_rfl) (by kernel_rfl) ?_
  repeat (first | go_big_quiet_step (first | with_reducible exact p1 _ _ | with_reducible exact p2 _ _) | quiet_step (first | with_reducible exact p1 _ _ | with_reducible exact p2 _ _))
  refine wpQuiet_nil ?_
  intro _ hw'
  obtain ⟨⟨dq, osq⟩, hw''⟩ := hw'
  subst hw''
  have hY := below_regrown X2 dq osq
  first | (change Exit.then _ _ Exit.normal _ (Sort.grow (redrawn X2 dq) osq)) | skip
  generalize Sort.grow (redrawn X2 dq) osq = Y8 at hY ⊢
  clear p1 p2 i2 i3 i4
  go_wp2
  go_ret
  exact ⟨congrArg (fun x => Ending.returned (.string x)) HV.out, HB2.out.trans (hY.mono HB2.out.size)⟩
/-- An outcome may be. -/
def outOk (ph tr : Int) : Bool := (decide (ph = 0 ∨ ph = 1) && tr == 0) || (ph == 2 && decide (1 ≤ tr) && decide (tr ≤ 7))
set_option maxRecDepth 100000 in
theorem outcome_any (W : World) (ph tr : Int) :
    Calls Tryd.prog 50 #[.agg #[.int .i64 ph, .int .i64 tr]] W fun e w' => e = .returned (.bool (outOk ph tr)) ∧ Below W.heap.size W w' := by
  go_enter Tryd.func50, Tryd.ntmps50
  go_wp2_with fail
  all_goals
    go_ret
    refine ⟨congrArg (fun b => Ending.returned (.bool b)) ?_, (Below.refl _ W).alloc (Nat.le_refl _) _⟩
    unfold outOk
    rw [Bool.eq_iff_iff]
    simp_all
    try omega
end Go.Proofs.YtdmiciblfbkndaaDoor

namespace Go.Proofs.YtdmiciblfbkndaaDoor
open Go.RowKit

theorem sl_to {s x : ByteArray} {k : Nat} (hk : k ≤ s.size) (hx : x.data.toList = s.data.toList.take k) : ∀ wx : World, (Instr.slice 9 (.string s) none (some (.int .i64 (k : Int))) none).run Tryd.prog wx = .ok (.string x) wx := fun wx => by
  have h1 : (0 : Int) ≤ (k : Int) := by omega
  have h2 : (k : Int) ≤ (s.size : Int) := by omega
  have e : s.extract 0 k = x := by
    have h3 : (s.extract 0 k).data.toList = x.data.toList := by rw [Lib.extract_data, hx]; simp
    cases x with | mk d => cases hs : s.extract 0 k with | mk d2 => rw [hs] at h3; simp at h3; rw [h3]
  rw [← e]
  simp [go_sem, h1, h2]
theorem sl_from {s x : ByteArray} {k : Nat} (hk : k ≤ s.size) (hx : x.data.toList = s.data.toList.drop k) : ∀ wx : World, (Instr.slice 9 (.string s) (some (.int .i64 (k : Int))) none none).run Tryd.prog wx = .ok (.string x) wx := fun wx => by
  have h1 : (0 : Int) ≤ (k : Int) := by omega
  have h2 : (k : Int) ≤ (s.size : Int) := by omega
  have hsz := Lib.size_eq s
  have e : s.extract k s.size = x := by
    have h3 : (s.extract k s.size).data.toList = x.data.toList := by rw [Lib.extract_data, hx, List.take_of_length_le (by rw [List.length_drop]; omega)]
    cases x with | mk d => cases hs : s.extract k s.size with | mk d2 => rw [hs] at h3; simp at h3; rw [h3]
  rw [← e]
  simp [go_sem, h1, h2]
/-- The same with a number of the program's own as a bound. -/
theorem sl_toU {s x : ByteArray} {k : Nat} (hk : k ≤ s.size) (hx : x.data.toList = s.data.toList.take k) : ∀ wx : World, (Instr.slice 9 (.string s) none (some (.int .u64 (k : Int))) none).run Tryd.prog wx = .ok (.string x) wx := fun wx => by
  have h1 : (0 : Int) ≤ (k : Int) := by omega
  have h2 : (k : Int) ≤ (s.size : Int) := by omega
  have e : s.extract 0 k = x := by
    have h3 : (s.extract 0 k).data.toList = x.data.toList := by rw [Lib.extract_data, hx]; simp
    cases x with | mk d => cases hs : s.extract 0 k with | mk d2 => rw [hs] at h3; simp at h3; rw [h3]
  rw [← e]
  simp [go_sem, h1, h2]
theorem sl_fromU {s x : ByteArray} {k : Nat} (hk : k ≤ s.size) (hx : x.data.toList = s.data.toList.drop k) : ∀ wx : World, (Instr.slice 9 (.string s) (some (.int .u64 (k : Int))) none none).run Tryd.prog wx = .ok (.string x) wx := fun wx => by
  have h1 : (0 : Int) ≤ (k : Int) := by omega
  have h2 : (k : Int) ≤ (s.size : Int) := by omega
  have hsz := Lib.size_eq s
  have e : s.extract k s.size = x := by
    have h3 : (s.extract k s.size).data.toList = x.data.toList := by rw [Lib.extract_data, hx, List.take_of_length_le (by rw [List.length_drop]; omega)]
    cases x with | mk d => cases hs : s.extract k s.size with | mk d2 => rw [hs] at h3; simp at h3; rw [h3]
  rw [← e]
  simp [go_sem, h1, h2]
/-- Blocks of other kinds than the reader's are as they were. -/
def OthR (W W' : World) : Prop := ∀ g t vs, Full W g t vs → t ≠ 9 → t ≠ 131 → Full W' g t vs
theorem OthR.refl (W : World) : OthR W W := fun _ _ _ h _ _ => h
theorem OthR.trans {a b c : World} (h : OthR a b) (k : OthR b c) : OthR a c := fun g t vs f h1 h2 => k g t vs (h g t vs f h1 h2) h1 h2
theorem OthR.of {a b : World} (h : Below a.heap.size a b) : OthR a b := fun _ _ _ f _ _ => f.next h
/-- The reader in memory. -/
structure Rdr (B : Nat) (W : World) (P : Nat) (s : Rd) (nv : Value) : Prop where
  low : B ≤ P
  box : Full W P 131 [.int .i64 s.nd, nv, sV s.r]
  names : W.ownsRow B 9 1 nv s.ns.length (s.ns.map sV)
theorem Rdr.next {B : Nat} {W W' : World} {P : Nat} {s : Rd} {nv : Value} (h : Rdr B W P s nv) (k : Below W.heap.size W W') : Rdr B W' P s nv := ⟨h.low, h.box.next k, own_next h.names k⟩
theorem Rdr.size {B : Nat} {W : World} {P : Nat} {s : Rd} {nv : Value} (h : Rdr B W P s nv) : B ≤ W.heap.size := Nat.le_of_lt (Nat.lt_of_le_of_lt h.low h.box.lt)
def RdS (B : Nat) (W : World) (P : Nat) (s : Rd) : Prop := ∃ nv, Rdr B W P s nv
theorem RdS.next {B : Nat} {W W' : World} {P : Nat} {s : Rd} (h : RdS B W P s) (k : Below W.heap.size W W') : RdS B W' P s := by
  obtain ⟨nv, h⟩ := h
  exact ⟨nv, h.next k⟩
theorem RdS.size {B : Nat} {W : World} {P : Nat} {s : Rd} (h : RdS B W P s) : B ≤ W.heap.size := by
  obtain ⟨nv, h⟩ := h
  exact h.size
/-- What is known of a reader behind a call. -/
def RdQ (B : Nat) (W : World) (P : Nat) (s : Rd) (W' : World) : Prop := Hid (RdS B W' P s ∧ Below B W W' ∧ OthR W W')
theorem RdQ.of {B : Nat} {W W' : World} {P : Nat} {s : Rd} (h : RdS B W P s) (k : Below W.heap.size W W') : RdQ B W P s W' := ⟨h.next k, k.mono h.size, OthR.of k⟩
theorem RdQ.trans {B : Nat} {a b c : World} {P : Nat} {s s' : Rd} (h : RdQ B a P s b) (k : RdQ B b P s' c) : RdQ B a P s' c := ⟨k.out.1, h.out.2.1.trans k.out.2.1, h.out.2.2.trans k.out.2.2⟩
/-- Another rest. -/
theorem RdS.rest {B : Nat} {W : World} {P : Nat} {s : Rd} (h : RdS B W P s) (r : List UInt8) : RdQ B W P ⟨s.nd, s.ns, r⟩ (W.setCell ⟨P, 2, none⟩ (sV r)) := by
  obtain ⟨nv, h⟩ := h
  exact ⟨⟨nv, h.low, Full.put1 (a := [.int .i64 s.nd, nv]) (d := []) h.box (sV r), own_oth h.names h.box (by decide) 2 _⟩, (Below.refl B W).setCell (p := ⟨P, 2, none⟩) h.low _, fun _ _ _ f _ h3 => f.other1 (f.ne h.box h3)⟩
/-- Another node. -/
theorem RdS.node {B : Nat} {W : World} {P : Nat} {s : Rd} (h : RdS B W P s) (n : Int) : RdQ B W P ⟨n, s.ns, s.r⟩ (W.setCell ⟨P, 0, none⟩ (.int .i64 n)) := by
  obtain ⟨nv, h⟩ := h
  exact ⟨⟨nv, h.low, Full.put1 (a := []) (d := [nv, sV s.r]) h.box (.int .i64 n), own_oth h.names h.box (by decide) 0 _⟩, (Below.refl B W).setCell (p := ⟨P, 0, none⟩) h.low _, fun _ _ _ f _ h3 => f.other1 (f.ne h.box h3)⟩
theorem RdS.cells {B : Nat} {W : World} {P : Nat} {s : Rd} (h : RdS B W P s) : ∃ q cap, (W.cell? ⟨P, 0, none⟩ = some (.int .i64 s.nd) ∧ W.frozen? ⟨P, 0, none⟩ = false) ∧ (W.cell? ⟨P, 1, none⟩ = some (.slice q s.ns.length cap) ∧ W.frozen? ⟨P, 1, none⟩ = false) ∧ W.cell? ⟨P, 2, none⟩ = some (sV s.r) ∧ W.frozen? ⟨P, 2, none⟩ = false ∧ Row W W.heap.size q s.ns.length (s.ns.map sV) := by
  obtain ⟨nv, h⟩ := h
  obtain ⟨q, cap, rfl, -, -⟩ := own_slice h.names
  obtain ⟨h0, h1, h2⟩ := h.box.three
  exact ⟨q, cap, h0, h1, h2.1, h2.2, row_of_own h.names⟩
section
variable {B : Nat} {W : World} {P : Nat} {s : Rd}
set_option maxRecDepth 100000 in
theorem rbyte (h : RdS B W P s) (hz : s.r.length ≤ 140737488355328) :
    Calls Tryd.prog 78 #[.pointer (some ⟨P, 0, none⟩)] W fun e w' => e = .returned (.int .u8 ((byteR s.r).1.toNat : Int)) ∧ RdQ B W P ⟨s.nd, s.ns, (byteR s.r).2⟩ w' := by
  obtain ⟨nd, ns, r⟩ := s
  obtain ⟨q, cap, ⟨c0, f0⟩, ⟨c1, f1⟩, c2, f2, -⟩ := h.cells
  cases r with
  | nil =>
    have HQ : RdQ B W P ⟨nd, ns, (byteR []).2⟩ W := RdQ.of h (Below.refl _ _)
    change W.cell? ⟨P, 2, none⟩ = some (.string ⟨#[]⟩) at c2
    have hem : (⟨#[]⟩ : ByteArray).toList.isEmpty = true := by rw [toL]; rfl
    clear h
    go_enter Tryd.func78, Tryd.ntmps78
    go_wp2_with fail
    go_ret
    exact ⟨rfl, HQ⟩
  | cons b r =>
    obtain ⟨sb, hsb⟩ : ∃ x : ByteArray, x.data.toList = b :: r := ⟨⟨(b :: r).toArray⟩, rfl⟩
    obtain ⟨tb, htb⟩ : ∃ x : ByteArray, x.data.toList = r := ⟨⟨r.toArray⟩, rfl⟩
    rw [show sV (⟨nd, ns, b :: r⟩ : Rd).r = .string sb from sV_at hsb] at c2
    have hsz : sb.size = r.length + 1 := by rw [Lib.size_eq, hsb]; rfl
    have R1 : ∀ wx : World, (Instr.slice 9 (.string sb) (some (.int .i64 1)) none none).run Tryd.prog wx = .ok (.string tb) wx := sl_from (s := sb) (x := tb) (k := 1) (by omega) (by rw [hsb, htb]; rfl)
    have HQ : RdQ B W P ⟨nd, ns, r⟩ (W.setCell ⟨P, 2, none⟩ (.string tb)) := by
      have := h.rest r
      rw [sV_at htb] at this
      exact this
    have hne : (sb.toList == (⟨#[]⟩ : ByteArray).toList) = false := by rw [toL, toL, hsb]; rfl
    have hem : sb.toList.isEmpty = false := by rw [toL, hsb]; rfl
    have hlt : 0 < sb.size := by omega
    obtain ⟨c, hc⟩ : ∃ c, sb[0]'hlt = c := ⟨_, rfl⟩
    have hcb : c = b := by
      have e : sb.data.toList[0]? = some b := by rw [hsb]; rfl
      rw [List.getElem?_eq_getElem (by rw [hsb]; simp)] at e
      rw [← hc]
      exact Option.some.inj e
    have HV : Hid (c.toNat = (byteR (b :: r)).1.toNat) := by rw [hcb]; rfl
    have qlt : (0 : Int) < (sb.size : Int) := by omega
    have hct := UInt8.toNat_lt c
    clear h hsb htb hcb hsz hz
    go_enter Tryd.func78, Tryd.ntmps78
    go_wp2_with fail
    go_ret
    exact ⟨congrArg (fun x : Nat => Ending.returned (.int .u8 (x : Int))) HV.out, HQ⟩
set_option maxRecDepth 100000 in
theorem rbytes (h : RdS B W P s) (n : Nat) (hn : n < 18446744073709551616) (hz : s.r.length ≤ 140737488355328) :
    Calls Tryd.prog 84 #[.pointer (some ⟨P, 0, none⟩), .int .u64 (n : Int)] W fun e w' => e = .returned (sV (s.r.take n)) ∧ RdQ B W P ⟨s.nd, s.ns, s.r.drop n⟩ w' := by
  obtain ⟨nd, ns, r⟩ := s
  obtain ⟨q, cap, ⟨c0, f0⟩, ⟨c1, f1⟩, c2, f2, -⟩ := h.cells
  simp only at hz ⊢
  obtain ⟨sb, hsb⟩ : ∃ x : ByteArray, x.data.toList = r := ⟨⟨r.toArray⟩, rfl⟩
  rw [show sV (⟨nd, ns, r⟩ : Rd).r = .string sb from sV_at hsb] at c2
  have hsz : sb.size = r.length := by rw [Lib.size_eq, hsb]
  have hk : (min (n : Int) (sb.size : Int)).toNat = min n sb.size := by omega
  have hta : (sb.extract 0 (min (n : Int) (sb.size : Int)).toNat).data.toList = r.take n := by
    rw [Lib.extract_data, hk, hsb, List.drop_zero, Nat.sub_zero, hsz]
    by_cases hle : n ≤ r.length
    · rw [Nat.min_eq_left hle]
    · rw [Nat.min_eq_right (by omega), List.take_of_length_le (Nat.le_refl _), List.take_of_length_le (by omega)]
  have htb : (sb.extract (min (n : Int) (sb.size : Int)).toNat sb.size).data.toList = r.drop n := by
    rw [Lib.extract_data, hk, hsb, hsz]
    by_cases hle : n ≤ r.length
    · rw [Nat.min_eq_left hle, List.take_of_length_le (by rw [List.length_drop]; omega)]
    · rw [Nat.min_eq_right (by omega), List.drop_of_length_le (Nat.le_refl _), List.drop_of_length_le (by omega), List.take_nil]
  have HQ : RdQ B W P ⟨nd, ns, r.drop n⟩ (W.setCell ⟨P, 2, none⟩ (.string (sb.extract (min (n : Int) (sb.size : Int)).toNat sb.size))) := by
    have := h.rest (r.drop n)
    rw [sV_at htb] at this
    exact this
  rw [show sV (r.take n) = .string (sb.extract 0 (min (n : Int) (sb.size : Int)).toNat) from sV_at hta]
  have qs : (sb.size : Int) < 18446744073709551616 := by omega
  have qz : (0 : Int) ≤ (n : Int) := by omega
  clear h hsb hta htb hsz hz hk
  go_enter Tryd.func84, Tryd.ntmps84
  go_wp2_with fail
  go_ret
  exact ⟨rfl, HQ⟩
theorem numR_step (k sh acc : Nat) (r : List UInt8) : numR (k + 1) sh acc r = if (byteR r).1.toNat < 128 then (acc + (byteR r).1.toNat % 128 * 2 ^ sh % 18446744073709551616, (byteR r).2) else numR k (sh + 7) (acc + (byteR r).1.toNat % 128 * 2 ^ sh % 18446744073709551616) (byteR r).2 := by
  cases r with
  | nil => simp [numR, byteR]
  | cons b r => rfl
set_option maxRecDepth 100000 in
set_option maxHeartbeats 4000000 in
theorem rnumber (h : RdS B W P s) (hz : s.r.length ≤ 140737488355328) :
    Calls Tryd.prog 85 #[.pointer (some ⟨P, 0, none⟩)] W fun e w' => e = .returned (.int .u64 ((nR s.r).1 : Int)) ∧ RdQ B W P ⟨s.nd, s.ns, (nR s.r).2⟩ w' := by
  have HS : Hid (s.r.length ≤ 140737488355328) := hz
  have HQ0 : RdQ B W P s W := RdQ.of h (Below.refl _ _)
  obtain ⟨RV, HRV⟩ : ∃ RV, Hid (nR s.r = RV) := ⟨_, (rfl : nR s.r = _)⟩
  rw [HRV.out]
  clear h hz
  go_enter Tryd.func85, Tryd.ntmps85
  go_wp2_with fail
  go_loopw [3, 4] (fun v sv wr => ∃ (t acc : Nat) (r : List UInt8), sv = .int .i64 (7 * (t : Int)) ∧ v = .int .u64 (acc : Int) ∧ t ≤ 10 ∧ acc < 2 ^ (7 * t) ∧ acc < 18446744073709551616 ∧ Hid (RV = numR (10 - t) (7 * t) acc r ∧ r.length ≤ 140737488355328) ∧ RdQ B W P ⟨s.nd, s.ns, r⟩ wr) (fun _ sv _ => 71 - (intOf sv).toNat)
  case atStart => exact ⟨0, 0, s.r, rfl, rfl, by omega, by omega, by omega, ⟨HRV.out.symm, HS.out⟩, HQ0⟩
  case round =>
    obtain ⟨t, acc, r, rfl, rfl, ht, hac, ha64, HN, HQ⟩ := hrel
    have HC := rbyte HQ.out.1 HN.out.2
    obtain ⟨c, hc⟩ : ∃ c, (byteR r).1 = c := ⟨_, rfl⟩
    simp only [hc] at HC
    have h127 := u8_and127 (c.toNat : Int) (by omega) (by have := UInt8.toNat_lt c; omega)
    have hct := UInt8.toNat_lt c
    have q0 : (0 : Int) ≤ (acc : Int) := by omega
    have q1 : (acc : Int) < 18446744073709551616 := by omega
    obtain ⟨m, hm⟩ : ∃ m, c.toNat % 128 = m := ⟨_, rfl⟩
    rw [show (c.toNat : Int) % 128 = (m : Int) by omega] at h127
    have m0 : (0 : Int) ≤ (m : Int) := by omega
    have m1 : (m : Int) < 128 := by omega
    have hcs : t = 0 ∨ t = 1 ∨ t = 2 ∨ t = 3 ∨ t = 4 ∨ t = 5 ∨ t = 6 ∨ t = 7 ∨ t = 8 ∨ t = 9 ∨ t = 10 := by omega
    rcases hcs with rfl | rfl | rfl | rfl | rfl | rfl | rfl | rfl | rfl | rfl | rfl
    · have hac2 : acc < 1 := hac
      have he : RV = if c.toNat < 128 then (acc + m * 1, (byteR r).2) else numR 9 7 (acc + m * 1) (byteR r).2 := by
        have h := HN.out.1
        rw [show numR (10 - 0) (7 * 0) acc r = numR (9 + 1) 0 acc r from rfl, numR_step, hc, hm] at h
        rw [h]
        rw [show m * 2 ^ 0 % 18446744073709551616 = m * 1 by omega]
      obtain ⟨a2, ha2⟩ : ∃ a2, acc + m * 1 = a2 := ⟨_, rfl⟩
      have ho : bits .or .u64 (acc : Int) (m : Int) = ((acc + m * 1 : Nat) : Int) := by
        have h := u64_orv0 (acc : Int) ((m : Int) * 1) q0 (by omega) (by omega) (by omega) (by omega)
        rw [Int.mul_one] at h
        rw [h]
        omega
      rw [ha2] at ho he
      have hb2 : a2 < 18446744073709551616 ∧ a2 < 2 ^ (7 * 1) := by rw [← ha2]; constructor <;> omega
      have HE : Hid (RV = if c.toNat < 128 then (a2, (byteR r).2) else numR 9 7 a2 (byteR r).2) := he
      have HR2 : Hid ((byteR r).2.length ≤ 140737488355328) := by
        have := HN.out.2
        show _ ≤ _
        cases r with
        | nil => simp [byteR]
        | cons b r => simp only [byteR, List.length_cons] at this ⊢; omega
      clear he hac hac2 HN ha2
      go_wp2_with fail
      refine HC.mono ?_
      rintro e w2 ⟨rfl, hw2⟩
      clear HC
      by_cases hs : c.toNat < 128
      · have qs : (c.toNat : Int) < 128 := by omega
        have HV : Hid (RV = (a2, (byteR r).2)) := by have h := HE.out; rw [if_pos hs] at h; exact h
        have HQ2 := HQ.trans hw2
        clear HE hs HQ hw2
        go_wp2_with fail
        go_ret
        exact ⟨congrArg (fun x : Nat × List UInt8 => Ending.returned (.int .u64 (x.1 : Int))) HV.out.symm, by rw [HV.out]; exact HQ2⟩
      · have qs : ¬ (c.toNat : Int) < 128 := by omega
        have HV : Hid (RV = numR 9 7 a2 (byteR r).2) := by have h := HE.out; rw [if_neg hs] at h; exact h
        have HQ2 := HQ.trans hw2
        clear HE hs HQ hw2 q0 q1
        go_wp2_with fail
        exact ⟨⟨1, a2, (byteR r).2, by go_num, rfl, by omega, hb2.2, hb2.1, ⟨by rw [show (10 - 1 : Nat) = 9 from rfl, show (7 * 1 : Nat) = 7 from rfl]; exact HV.out, HR2.out⟩, HQ2⟩, by simp [intOf]⟩
    · have hac2 : acc < 128 := hac
      have he : RV = if c.toNat < 128 then (acc + m * 128, (byteR r).2) else numR 8 14 (acc + m * 128) (byteR r).2 := by
        have h := HN.out.1
        rw [show numR (10 - 1) (7 * 1) acc r = numR (8 + 1) 7 acc r from rfl, numR_step, hc, hm] at h
        rw [h]
        rw [show m * 2 ^ 7 % 18446744073709551616 = m * 128 by omega]
      obtain ⟨a2, ha2⟩ : ∃ a2, acc + m * 128 = a2 := ⟨_, rfl⟩
      have ho : bits .or .u64 (acc : Int) ((m : Int) * 128) = ((acc + m * 128 : Nat) : Int) := by
        have h := u64_orv7 (acc : Int) ((m : Int) * 128) q0 (by omega) (by omega) (by omega) (by omega)
        skip
        rw [h]
        omega
      rw [ha2] at ho he
      have hb2 : a2 < 18446744073709551616 ∧ a2 < 2 ^ (7 * 2) := by rw [← ha2]; constructor <;> omega
      have HE : Hid (RV = if c.toNat < 128 then (a2, (byteR r).2) else numR 8 14 a2 (byteR r).2) := he
      have HR2 : Hid ((byteR r).2.length ≤ 140737488355328) := by
        have := HN.out.2
        show _ ≤ _
        cases r with
        | nil => simp [byteR]
        | cons b r => simp only [byteR, List.length_cons] at this ⊢; omega
      clear he hac hac2 HN ha2
      go_wp2_with fail
      refine HC.mono ?_
      rintro e w2 ⟨rfl, hw2⟩
      clear HC
      by_cases hs : c.toNat < 128
      · have qs : (c.toNat : Int) < 128 := by omega
        have HV : Hid (RV = (a2, (byteR r).2)) := by have h := HE.out; rw [if_pos hs] at h; exact h
        have HQ2 := HQ.trans hw2
        clear HE hs HQ hw2
        go_wp2_with fail
        go_ret
        exact ⟨congrArg (fun x : Nat × List UInt8 => Ending.returned (.int .u64 (x.1 : Int))) HV.out.symm, by rw [HV.out]; exact HQ2⟩
      · have qs : ¬ (c.toNat : Int) < 128 := by omega
        have HV : Hid (RV = numR 8 14 a2 (byteR r).2) := by have h := HE.out; rw [if_neg hs] at h; exact h
        have HQ2 := HQ.trans hw2
        clear HE hs HQ hw2 q0 q1
        go_wp2_with fail
        exact ⟨⟨2, a2, (byteR r).2, by go_num, rfl, by omega, hb2.2, hb2.1, ⟨by rw [show (10 - 2 : Nat) = 8 from rfl, show (7 * 2 : Nat) = 14 from rfl]; exact HV.out, HR2.out⟩, HQ2⟩, by simp [intOf]⟩
    · have hac2 : acc < 16384 := hac
      have he : RV = if c.toNat < 128 then (acc + m * 16384, (byteR r).2) else numR 7 21 (acc + m * 16384) (byteR r).2 := by
        have h := HN.out.1
        rw [show numR (10 - 2) (7 * 2) acc r = numR (7 + 1) 14 acc r from rfl, numR_step, hc, hm] at h
        rw [h]
        rw [show m * 2 ^ 14 % 18446744073709551616 = m * 16384 by omega]
      obtain ⟨a2, ha2⟩ : ∃ a2, acc + m * 16384 = a2 := ⟨_, rfl⟩
      have ho : bits .or .u64 (acc : Int) ((m : Int) * 16384) = ((acc + m * 16384 : Nat) : Int) := by
        have h := u64_orv14 (acc : Int) ((m : Int) * 16384) q0 (by omega) (by omega) (by omega) (by omega)
        skip
        rw [h]
        omega
      rw [ha2] at ho he
      have hb2 : a2 < 18446744073709551616 ∧ a2 < 2 ^ (7 * 3) := by rw [← ha2]; constructor <;> omega
      have HE : Hid (RV = if c.toNat < 128 then (a2, (byteR r).2) else numR 7 21 a2 (byteR r).2) := he
      have HR2 : Hid ((byteR r).2.length ≤ 140737488355328) := by
        have := HN.out.2
        show _ ≤ _
        cases r with
        | nil => simp [byteR]
        | cons b r => simp only [byteR, List.length_cons] at this ⊢; omega
      clear he hac hac2 HN ha2
      go_wp2_with fail
      refine HC.mono ?_
      rintro e w2 ⟨rfl, hw2⟩
      clear HC
      by_cases hs : c.toNat < 128
      · have qs : (c.toNat : Int) < 128 := by omega
        have HV : Hid (RV = (a2, (byteR r).2)) := by have h := HE.out; rw [if_pos hs] at h; exact h
        have HQ2 := HQ.trans hw2
        clear HE hs HQ hw2
        go_wp2_with fail
        go_ret
        exact ⟨congrArg (fun x : Nat × List UInt8 => Ending.returned (.int .u64 (x.1 : Int))) HV.out.symm, by rw [HV.out]; exact HQ2⟩
      · have qs : ¬ (c.toNat : Int) < 128 := by omega
        have HV : Hid (RV = numR 7 21 a2 (byteR r).2) := by have h := HE.out; rw [if_neg hs] at h; exact h
        have HQ2 := HQ.trans hw2
        clear HE hs HQ hw2 q0 q1
        go_wp2_with fail
        exact ⟨⟨3, a2, (byteR r).2, by go_num, rfl, by omega, hb2.2, hb2.1, ⟨by rw [show (10 - 3 : Nat) = 7 from rfl, show (7 * 3 : Nat) = 21 from rfl]; exact HV.out, HR2.out⟩, HQ2⟩, by simp [intOf]⟩
    · have hac2 : acc < 2097152 := hac
      have he : RV = if c.toNat < 128 then (acc + m * 2097152, (byteR r).2) else numR 6 28 (acc + m * 2097152) (byteR r).2 := by
        have h := HN.out.1
        rw [show numR (10 - 3) (7 * 3) acc r = numR (6 + 1) 21 acc r from rfl, numR_step, hc, hm] at h
        rw [h]
        rw [show m * 2 ^ 21 % 18446744073709551616 = m * 2097152 by omega]
      obtain ⟨a2, ha2⟩ : ∃ a2, acc + m * 2097152 = a2 := ⟨_, rfl⟩
      have ho : bits .or .u64 (acc : Int) ((m : Int) * 2097152) = ((acc + m * 2097152 : Nat) : Int) := by
        have h := u64_orv21 (acc : Int) ((m : Int) * 2097152) q0 (by omega) (by omega) (by omega) (by omega)
        skip
        rw [h]
        omega
      rw [ha2] at ho he
      have hb2 : a2 < 18446744073709551616 ∧ a2 < 2 ^ (7 * 4) := by rw [← ha2]; constructor <;> omega
      have HE : Hid (RV = if c.toNat < 128 then (a2, (byteR r).2) else numR 6 28 a2 (byteR r).2) := he
      have HR2 : Hid ((byteR r).2.length ≤ 140737488355328) := by
        have := HN.out.2
        show _ ≤ _
        cases r with
        | nil => simp [byteR]
        | cons b r => simp only [byteR, List.length_cons] at this ⊢; omega
      clear he hac hac2 HN ha2
      go_wp2_with fail
      refine HC.mono ?_
      rintro e w2 ⟨rfl, hw2⟩
      clear HC
      by_cases hs : c.toNat < 128
      · have qs : (c.toNat : Int) < 128 := by omega
        have HV : Hid (RV = (a2, (byteR r).2)) := by have h := HE.out; rw [if_pos hs] at h; exact h
        have HQ2 := HQ.trans hw2
        clear HE hs HQ hw2
        go_wp2_with fail
        go_ret
        exact ⟨congrArg (fun x : Nat × List UInt8 => Ending.returned (.int .u64 (x.1 : Int))) HV.out.symm, by rw [HV.out]; exact HQ2⟩
      · have qs : ¬ (c.toNat : Int) < 128 := by omega
        have HV : Hid (RV = numR 6 28 a2 (byteR r).2) := by have h := HE.out; rw [if_neg hs] at h; exact h
        have HQ2 := HQ.trans hw2
        clear HE hs HQ hw2 q0 q1
        go_wp2_with fail
        exact ⟨⟨4, a2, (byteR r).2, by go_num, rfl, by omega, hb2.2, hb2.1, ⟨by rw [show (10 - 4 : Nat) = 6 from rfl, show (7 * 4 : Nat) = 28 from rfl]; exact HV.out, HR2.out⟩, HQ2⟩, by simp [intOf]⟩
    · have hac2 : acc < 268435456 := hac
      have he : RV = if c.toNat < 128 then (acc + m * 268435456, (byteR r).2) else numR 5 35 (acc + m * 268435456) (byteR r).2 := by
        have h := HN.out.1
        rw [show numR (10 - 4) (7 * 4) acc r = numR (5 + 1) 28 acc r from rfl, numR_step, hc, hm] at h
        rw [h]
        rw [show m * 2 ^ 28 % 18446744073709551616 = m * 268435456 by omega]
      obtain ⟨a2, ha2⟩ : ∃ a2, acc + m * 268435456 = a2 := ⟨_, rfl⟩
      have ho : bits .or .u64 (acc : Int) ((m : Int) * 268435456) = ((acc + m * 268435456 : Nat) : Int) := by
        have h := u64_orv28 (acc : Int) ((m : Int) * 268435456) q0 (by omega) (by omega) (by omega) (by omega)
        skip
        rw [h]
        omega
      rw [ha2] at ho he
      have hb2 : a2 < 18446744073709551616 ∧ a2 < 2 ^ (7 * 5) := by rw [← ha2]; constructor <;> omega
      have HE : Hid (RV = if c.toNat < 128 then (a2, (byteR r).2) else numR 5 35 a2 (byteR r).2) := he
      have HR2 : Hid ((byteR r).2.length ≤ 140737488355328) := by
        have := HN.out.2
        show _ ≤ _
        cases r with
        | nil => simp [byteR]
        | cons b r => simp only [byteR, List.length_cons] at this ⊢; omega
      clear he hac hac2 HN ha2
      go_wp2_with fail
      refine HC.mono ?_
      rintro e w2 ⟨rfl, hw2⟩
      clear HC
      by_cases hs : c.toNat < 128
      · have qs : (c.toNat : Int) < 128 := by omega
        have HV : Hid (RV = (a2, (byteR r).2)) := by have h := HE.out; rw [if_pos hs] at h; exact h
        have HQ2 := HQ.trans hw2
        clear HE hs HQ hw2
        go_wp2_with fail
        go_ret
        exact ⟨congrArg (fun x : Nat × List UInt8 => Ending.returned (.int .u64 (x.1 : Int))) HV.out.symm, by rw [HV.out]; exact HQ2⟩
      · have qs : ¬ (c.toNat : Int) < 128 := by omega
        have HV : Hid (RV = numR 5 35 a2 (byteR r).2) := by have h := HE.out; rw [if_neg hs] at h; exact h
        have HQ2 := HQ.trans hw2
        clear HE hs HQ hw2 q0 q1
        go_wp2_with fail
        exact ⟨⟨5, a2, (byteR r).2, by go_num, rfl, by omega, hb2.2, hb2.1, ⟨by rw [show (10 - 5 : Nat) = 5 from rfl, show (7 * 5 : Nat) = 35 from rfl]; exact HV.out, HR2.out⟩, HQ2⟩, by simp [intOf]⟩
    · have hac2 : acc < 34359738368 := hac
      have he : RV = if c.toNat < 128 then (acc + m * 34359738368, (byteR r).2) else numR 4 42 (acc + m * 34359738368) (byteR r).2 := by
        have h := HN.out.1
        rw [show numR (10 - 5) (7 * 5) acc r = numR (4 + 1) 35 acc r from rfl, numR_step, hc, hm] at h
        rw [h]
        rw [show m * 2 ^ 35 % 18446744073709551616 = m * 34359738368 by omega]
      obtain ⟨a2, ha2⟩ : ∃ a2, acc + m * 34359738368 = a2 := ⟨_, rfl⟩
      have ho : bits .or .u64 (acc : Int) ((m : Int) * 34359738368) = ((acc + m * 34359738368 : Nat) : Int) := by
        have h := u64_orv35 (acc : Int) ((m : Int) * 34359738368) q0 (by omega) (by omega) (by omega) (by omega)
        skip
        rw [h]
        omega
      rw [ha2] at ho he
      have hb2 : a2 < 18446744073709551616 ∧ a2 < 2 ^ (7 * 6) := by rw [← ha2]; constructor <;> omega
      have HE : Hid (RV = if c.toNat < 128 then (a2, (byteR r).2) else numR 4 42 a2 (byteR r).2) := he
      have HR2 : Hid ((byteR r).2.length ≤ 140737488355328) := by
        have := HN.out.2
        show _ ≤ _
        cases r with
        | nil => simp [byteR]
        | cons b r => simp only [byteR, List.length_cons] at this ⊢; omega
      clear he hac hac2 HN ha2
      go_wp2_with fail
      refine HC.mono ?_
      rintro e w2 ⟨rfl, hw2⟩
      clear HC
      by_cases hs : c.toNat < 128
      · have qs : (c.toNat : Int) < 128 := by omega
        have HV : Hid (RV = (a2, (byteR r).2)) := by have h := HE.out; rw [if_pos hs] at h; exact h
        have HQ2 := HQ.trans hw2
        clear HE hs HQ hw2
        go_wp2_with fail
        go_ret
        exact ⟨congrArg (fun x : Nat × List UInt8 => Ending.returned (.int .u64 (x.1 : Int))) HV.out.symm, by rw [HV.out]; exact HQ2⟩
      · have qs : ¬ (c.toNat : Int) < 128 := by omega
        have HV : Hid (RV = numR 4 42 a2 (byteR r).2) := by have h := HE.out; rw [if_neg hs] at h; exact h
        have HQ2 := HQ.trans hw2
        clear HE hs HQ hw2 q0 q1
        go_wp2_with fail
        exact ⟨⟨6, a2, (byteR r).2, by go_num, rfl, by omega, hb2.2, hb2.1, ⟨by rw [show (10 - 6 : Nat) = 4 from rfl, show (7 * 6 : Nat) = 42 from rfl]; exact HV.out, HR2.out⟩, HQ2⟩, by simp [intOf]⟩
    · have hac2 : acc < 4398046511104 := hac
      have he : RV = if c.toNat < 128 then (acc + m * 4398046511104, (byteR r).2) else numR 3 49 (acc + m * 4398046511104) (byteR r).2 := by
        have h := HN.out.1
        rw [show numR (10 - 6) (7 * 6) acc r = numR (3 + 1) 42 acc r from rfl, numR_step, hc, hm] at h
        rw [h]
        rw [show m * 2 ^ 42 % 18446744073709551616 = m * 4398046511104 by omega]
      obtain ⟨a2, ha2⟩ : ∃ a2, acc + m * 4398046511104 = a2 := ⟨_, rfl⟩
      have ho : bits .or .u64 (acc : Int) ((m : Int) * 4398046511104) = ((acc + m * 4398046511104 : Nat) : Int) := by
        have h := u64_orv42 (acc : Int) ((m : Int) * 4398046511104) q0 (by omega) (by omega) (by omega) (by omega)
        skip
        rw [h]
        omega
      rw [ha2] at ho he
      have hb2 : a2 < 18446744073709551616 ∧ a2 < 2 ^ (7 * 7) := by rw [← ha2]; constructor <;> omega
      have HE : Hid (RV = if c.toNat < 128 then (a2, (byteR r).2) else numR 3 49 a2 (byteR r).2) := he
      have HR2 : Hid ((byteR r).2.length ≤ 140737488355328) := by
        have := HN.out.2
        show _ ≤ _
        cases r with
        | nil => simp [byteR]
        | cons b r => simp only [byteR, List.length_cons] at this ⊢; omega
      clear he hac hac2 HN ha2
      go_wp2_with fail
      refine HC.mono ?_
      rintro e w2 ⟨rfl, hw2⟩
      clear HC
      by_cases hs : c.toNat < 128
      · have qs : (c.toNat : Int) < 128 := by omega
        have HV : Hid (RV = (a2, (byteR r).2)) := by have h := HE.out; rw [if_pos hs] at h; exact h
        have HQ2 := HQ.trans hw2
        clear HE hs HQ hw2
        go_wp2_with fail
        go_ret
        exact ⟨congrArg (fun x : Nat × List UInt8 => Ending.returned (.int .u64 (x.1 : Int))) HV.out.symm, by rw [HV.out]; exact HQ2⟩
      · have qs : ¬ (c.toNat : Int) < 128 := by omega
        have HV : Hid (RV = numR 3 49 a2 (byteR r).2) := by have h := HE.out; rw [if_neg hs] at h; exact h
        have HQ2 := HQ.trans hw2
        clear HE hs HQ hw2 q0 q1
        go_wp2_with fail
        exact ⟨⟨7, a2, (byteR r).2, by go_num, rfl, by omega, hb2.2, hb2.1, ⟨by rw [show (10 - 7 : Nat) = 3 from rfl, show (7 * 7 : Nat) = 49 from rfl]; exact HV.out, HR2.out⟩, HQ2⟩, by simp [intOf]⟩
    · have hac2 : acc < 562949953421312 := hac
      have he : RV = if c.toNat < 128 then (acc + m * 562949953421312, (byteR r).2) else numR 2 56 (acc + m * 562949953421312) (byteR r).2 := by
        have h := HN.out.1
        rw [show numR (10 - 7) (7 * 7) acc r = numR (2 + 1) 49 acc r from rfl, numR_step, hc, hm] at h
        rw [h]
        rw [show m * 2 ^ 49 % 18446744073709551616 = m * 562949953421312 by omega]
      obtain ⟨a2, ha2⟩ : ∃ a2, acc + m * 562949953421312 = a2 := ⟨_, rfl⟩
      have ho : bits .or .u64 (acc : Int) ((m : Int) * 562949953421312) = ((acc + m * 562949953421312 : Nat) : Int) := by
        have h := u64_orv49 (acc : Int) ((m : Int) * 562949953421312) q0 (by omega) (by omega) (by omega) (by omega)
        skip
        rw [h]
        omega
      rw [ha2] at ho he
      have hb2 : a2 < 18446744073709551616 ∧ a2 < 2 ^ (7 * 8) := by rw [← ha2]; constructor <;> omega
      have HE : Hid (RV = if c.toNat < 128 then (a2, (byteR r).2) else numR 2 56 a2 (byteR r).2) := he
      have HR2 : Hid ((byteR r).2.length ≤ 140737488355328) := by
        have := HN.out.2
        show _ ≤ _
        cases r with
        | nil => simp [byteR]
        | cons b r => simp only [byteR, List.length_cons] at this ⊢; omega
      clear he hac hac2 HN ha2
      go_wp2_with fail
      refine HC.mono ?_
      rintro e w2 ⟨rfl, hw2⟩
      clear HC
      by_cases hs : c.toNat < 128
      · have qs : (c.toNat : Int) < 128 := by omega
        have HV : Hid (RV = (a2, (byteR r).2)) := by have h := HE.out; rw [if_pos hs] at h; exact h
        have HQ2 := HQ.trans hw2
        clear HE hs HQ hw2
        go_wp2_with fail
        go_ret
        exact ⟨congrArg (fun x : Nat × List UInt8 => Ending.returned (.int .u64 (x.1 : Int))) HV.out.symm, by rw [HV.out]; exact HQ2⟩
      · have qs : ¬ (c.toNat : Int) < 128 := by omega
        have HV : Hid (RV = numR 2 56 a2 (byteR r).2) := by have h := HE.out; rw [if_neg hs] at h; exact h
        have HQ2 := HQ.trans hw2
        clear HE hs HQ hw2 q0 q1
        go_wp2_with fail
        exact ⟨⟨8, a2, (byteR r).2, by go_num, rfl, by omega, hb2.2, hb2.1, ⟨by rw [show (10 - 8 : Nat) = 2 from rfl, show (7 * 8 : Nat) = 56 from rfl]; exact HV.out, HR2.out⟩, HQ2⟩, by simp [intOf]⟩
    · have hac2 : acc < 72057594037927936 := hac
      have he : RV = if c.toNat < 128 then (acc + m * 72057594037927936, (byteR r).2) else numR 1 63 (acc + m * 72057594037927936) (byteR r).2 := by
        have h := HN.out.1
        rw [show numR (10 - 8) (7 * 8) acc r = numR (1 + 1) 56 acc r from rfl, numR_step, hc, hm] at h
        rw [h]
        rw [show m * 2 ^ 56 % 18446744073709551616 = m * 72057594037927936 by omega]
      obtain ⟨a2, ha2⟩ : ∃ a2, acc + m * 72057594037927936 = a2 := ⟨_, rfl⟩
      have ho : bits .or .u64 (acc : Int) ((m : Int) * 72057594037927936) = ((acc + m * 72057594037927936 : Nat) : Int) := by
        have h := u64_orv56 (acc : Int) ((m : Int) * 72057594037927936) q0 (by omega) (by omega) (by omega) (by omega)
        skip
        rw [h]
        omega
      rw [ha2] at ho he
      have hb2 : a2 < 18446744073709551616 ∧ a2 < 2 ^ (7 * 9) := by rw [← ha2]; constructor <;> omega
      have HE : Hid (RV = if c.toNat < 128 then (a2, (byteR r).2) else numR 1 63 a2 (byteR r).2) := he
      have HR2 : Hid ((byteR r).2.length ≤ 140737488355328) := by
        have := HN.out.2
        show _ ≤ _
        cases r with
        | nil => simp [byteR]
        | cons b r => simp only [byteR, List.length_cons] at this ⊢; omega
      clear he hac hac2 HN ha2
      go_wp2_with fail
      refine HC.mono ?_
      rintro e w2 ⟨rfl, hw2⟩
      clear HC
      by_cases hs : c.toNat < 128
      · have qs : (c.toNat : Int) < 128 := by omega
        have HV : Hid (RV = (a2, (byteR r).2)) := by have h := HE.out; rw [if_pos hs] at h; exact h
        have HQ2 := HQ.trans hw2
        clear HE hs HQ hw2
        go_wp2_with fail
        go_ret
        exact ⟨congrArg (fun x : Nat × List UInt8 => Ending.returned (.int .u64 (x.1 : Int))) HV.out.symm, by rw [HV.out]; exact HQ2⟩
      · have qs : ¬ (c.toNat : Int) < 128 := by omega
        have HV : Hid (RV = numR 1 63 a2 (byteR r).2) := by have h := HE.out; rw [if_neg hs] at h; exact h
        have HQ2 := HQ.trans hw2
        clear HE hs HQ hw2 q0 q1
        go_wp2_with fail
        exact ⟨⟨9, a2, (byteR r).2, by go_num, rfl, by omega, hb2.2, hb2.1, ⟨by rw [show (10 - 9 : Nat) = 1 from rfl, show (7 * 9 : Nat) = 63 from rfl]; exact HV.out, HR2.out⟩, HQ2⟩, by simp [intOf]⟩
    · have hac2 : acc < 9223372036854775808 := hac
      have he : RV = if c.toNat < 128 then (acc + m * 9223372036854775808 % 18446744073709551616, (byteR r).2) else numR 0 70 (acc + m * 9223372036854775808 % 18446744073709551616) (byteR r).2 := by
        have h := HN.out.1
        rw [show numR (10 - 9) (7 * 9) acc r = numR (0 + 1) 63 acc r from rfl, numR_step, hc, hm] at h
        rw [h]
        skip
      obtain ⟨a2, ha2⟩ : ∃ a2, acc + m * 9223372036854775808 % 18446744073709551616 = a2 := ⟨_, rfl⟩
      have ho : bits .or .u64 (acc : Int) ((m : Int) * 9223372036854775808 % 18446744073709551616) = ((acc + m * 9223372036854775808 % 18446744073709551616 : Nat) : Int) := by
        rw [u64_orv63 (acc : Int) ((m : Int) * 9223372036854775808 % 18446744073709551616) q0 (by omega) (by omega) (by omega) (by omega)]
        omega
      have ho2 : bits .or .u64 (acc : Int) (IntKind.u64.wrap ((m : Int) * 9223372036854775808)) = ((acc + m * 9223372036854775808 % 18446744073709551616 : Nat) : Int) := by
        rw [IntKind.wrap_u64]
        exact ho
      rw [ha2] at ho he ho2
      have hb2 : a2 < 18446744073709551616 ∧ a2 < 2 ^ (7 * 10) := by rw [← ha2]; constructor <;> omega
      have HE : Hid (RV = if c.toNat < 128 then (a2, (byteR r).2) else numR 0 70 a2 (byteR r).2) := he
      have HR2 : Hid ((byteR r).2.length ≤ 140737488355328) := by
        have := HN.out.2
        show _ ≤ _
        cases r with
        | nil => simp [byteR]
        | cons b r => simp only [byteR, List.length_cons] at this ⊢; omega
      clear he hac hac2 HN ha2
      go_wp2_with fail
      refine HC.mono ?_
      rintro e w2 ⟨rfl, hw2⟩
      clear HC
      by_cases hs : c.toNat < 128
      · have qs : (c.toNat : Int) < 128 := by omega
        have HV : Hid (RV = (a2, (byteR r).2)) := by have h := HE.out; rw [if_pos hs] at h; exact h
        have HQ2 := HQ.trans hw2
        clear HE hs HQ hw2
        go_wp2_with fail
        go_ret
        exact ⟨congrArg (fun x : Nat × List UInt8 => Ending.returned (.int .u64 (x.1 : Int))) HV.out.symm, by rw [HV.out]; exact HQ2⟩
      · have qs : ¬ (c.toNat : Int) < 128 := by omega
        have HV : Hid (RV = numR 0 70 a2 (byteR r).2) := by have h := HE.out; rw [if_neg hs] at h; exact h
        have HQ2 := HQ.trans hw2
        clear HE hs HQ hw2 q0 q1
        go_wp2_with fail
        exact ⟨⟨10, a2, (byteR r).2, by go_num, rfl, by omega, hb2.2, hb2.1, ⟨by rw [show (10 - 10 : Nat) = 0 from rfl, show (7 * 10 : Nat) = 70 from rfl]; exact HV.out, HR2.out⟩, HQ2⟩, by simp [intOf]⟩
    · have HV : Hid (RV = (acc, r)) := HN.out.1
      clear HC HN
      go_wp2_with fail
      go_ret
      exact ⟨congrArg (fun x : Nat × List UInt8 => Ending.returned (.int .u64 (x.1 : Int))) HV.out.symm, by rw [HV.out]; exact HQ⟩
end
end Go.Proofs.YtdmiciblfbkndaaDoor
