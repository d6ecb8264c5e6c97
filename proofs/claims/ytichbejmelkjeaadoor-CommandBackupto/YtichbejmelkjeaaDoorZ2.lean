import Derived.Test.YtichbejmelkjeaaDoorZ1
import Derived.Test.YtichbejmelkjeaaDoorXB
import Derived.Test.YtichbejmelkjeaaDoorcTx
import Derived.Test.YtichbejmelkjeaaDoorXC
import Derived.Test.YtichbejmelkjeaaDoorcLaD
import Derived.Carry
namespace Go.Proofs.YtichbejmelkjeaaDoor
open Go.RowKit

theorem and_one (x : Int) : bits BinOp.and IntKind.i64 x 1 = x % 2 := by
  unfold bits
  have h : (BitVec.ofInt IntKind.i64.bits x &&& BitVec.ofInt IntKind.i64.bits 1).toNat = (x % 2).toNat := by
    rw [BitVec.toNat_and]
    have e1 : (BitVec.ofInt IntKind.i64.bits 1).toNat = 1 := by decide
    rw [e1, Nat.and_one_is_mod, BitVec.toNat_ofInt]
    have e2 : ((2 ^ IntKind.i64.bits : Nat) : Int) = 18446744073709551616 := by decide
    rw [e2]; omega
  simp only
  rw [h, IntKind.wrap_i64]
  omega
def iv (b : Int) : Value := .int .i64 b
theorem sl_midW {s x : ByteArray} {a k : Nat} (ha : a ≤ k) (hk : k ≤ s.size) (hx : x.data.toList = (s.data.toList.drop a).take (k - a)) : ∀ wx : World, (Instr.slice 9 (.string s) (some (.int .i64 (a : Int))) (some (.int .i64 (k : Int))) none).run Tryd.prog wx = .ok (.string x) wx := fun wx => by
  have h1 : (0 : Int) ≤ (a : Int) := by omega
  have h2 : (a : Int) ≤ (k : Int) := by omega
  have h3 : (k : Int) ≤ (s.size : Int) := by omega
  have e : s.extract a k = x := by
    have h4 : (s.extract a k).data.toList = x.data.toList := by rw [Lib.extract_data, hx]
    cases x with | mk d => cases hs : s.extract a k with | mk d2 => rw [hs] at h4; simp at h4; rw [h4]
  rw [← e]
  simp [go_sem, h1, h2, h3]
theorem sl_one {s : ByteArray} {i : Nat} (hi : i < s.size) {c : UInt8} (hc : s[i]'hi = c) : ∀ wx : World, (Instr.slice 9 (.string s) (some (.int .i64 (i : Int))) (some (.int .i64 ((i : Int) + 1))) none).run Tryd.prog wx = .ok (.string ⟨#[c]⟩) wx := by
  refine sl_midW (k := i + 1) (by omega) (by omega) ?_
  have hsz := Lib.size_eq s
  rw [List.drop_eq_getElem_cons (by omega), show i + 1 - i = 1 by omega]
  have : s.data.toList[i]'(by omega) = c := by rw [← hc]; rfl
  rw [this]; rfl
theorem drop_c {s : ByteArray} {i : Nat} (hi : i < s.size) {c : UInt8} (hc : s[i]'hi = c) : s.data.toList.drop i = c :: s.data.toList.drop (i + 1) := by
  have hsz := Lib.size_eq s
  rw [List.drop_eq_getElem_cons (by omega)]
  have : s.data.toList[i]'(by omega) = c := by rw [← hc]; rfl
  rw [this]
theorem conv_byte (w : World) (c : UInt8) : (convert 50 9 (.slice (some ⟨w.heap.size, 0, none⟩) 1 1)).run Tryd.prog (w.alloc (.cells #[.int .u8 (c.toNat : Int)] 5)) = .ok (.string ⟨#[c]⟩) (w.alloc (.cells #[.int .u8 (c.toNat : Int)] 5)) := by
  obtain ⟨w0, h0, h1, -⟩ := Lx.build1 c w
  rw [← h0]
  exact Lx.conv_own h1
theorem app_list (A : ByteArray) (c : UInt8) : (A ++ (⟨#[c]⟩ : ByteArray)).data.toList = A.data.toList ++ [c] := by rw [ByteArray.data_append]; simp
theorem app_size (A : ByteArray) (c : UInt8) : (A ++ (⟨#[c]⟩ : ByteArray)).size = A.size + 1 := by rw [ByteArray.size_append]; rfl

set_option maxRecDepth 100000 in
set_option maxHeartbeats 4000000 in
theorem spread_any (s : ByteArray) (q : Option Addr) (cap : Nat) (B : List Int) (n : Nat) (w : World) (hs : s.size ≤ 2000000000) (hB : B.length ≤ 1048576) (hR : Row w w.heap.size q B.length (B.map iv)) (hn : n ≤ 3) (hb : ∀ b ∈ B, -9223372036854775808 ≤ b ∧ b ≤ 9223372036854775807) :
    Calls Tryd.prog 9 #[.string s, .slice q B.length cap, .int .i64 (n : Int)] w fun e w' => e = .returned (.string ⟨(spS s.data.toList B n).toArray⟩) ∧ Below w.heap.size w w' := by
  obtain ⟨m, hm⟩ : ∃ m, B.length = m := ⟨_, rfl⟩
  have HR : Hid (Row w w.heap.size q m (B.map iv)) := by rw [← hm]; exact hR
  have HW : Hid (Below w.heap.size w w) := Below.refl _ _
  have HM : Hid (B.length = m) := hm
  have Hb : Hid (∀ b ∈ B, -9223372036854775808 ≤ b ∧ b ≤ 9223372036854775807) := hb
  obtain ⟨R, hRR⟩ : ∃ R, spS s.data.toList B n = R := ⟨_, rfl⟩
  have HRR : Hid (spS s.data.toList B n = R) := hRR
  rw [hm] at hB ⊢
  rw [hRR]
  clear hm hR hb hRR
  go_enter Tryd.func9, Tryd.ntmps9
  go_wp2_with fail
  go_loopw [7, 8, 9, 13] (fun sv dv kv ix wr => ∃ (i kk wd : Nat) (A : ByteArray), sv = .string A ∧ dv = .int .i64 (wd : Int) ∧ kv = .int .i64 (kk : Int) ∧ ix = .int .i64 (i : Int) ∧ i ≤ s.size ∧ wd ≤ n ∧ kk ≤ m + i ∧ A.size ≤ i + kk ∧ Hid (A.data.toList ++ spS (s.data.toList.drop i) (B.drop kk) (n - wd) = R) ∧ Hid (Below w.heap.size w wr)) (fun _ _ _ ix _ => s.size - (intOf ix).toNat)
  case atStart => exact ⟨0, 0, 0, ⟨#[]⟩, rfl, rfl, rfl, rfl, by omega, by omega, by omega, by decide, HRR.out, HW.out⟩
  case round =>
    clear HRR HW
    obtain ⟨i, kk, wd, A, rfl, rfl, rfl, rfl, hi, hwd, hkk, hA, HI, HBx⟩ := hrel
    have hi0 : (0 : Int) ≤ (i : Int) := by omega
    have hk0 : (0 : Int) ≤ (kk : Int) := by omega
    have hsz := Lib.size_eq s
    by_cases hend : i = s.size
    · have HRe : Hid (A = ⟨R.toArray⟩) := by
        show A = _
        have h := HI.out
        rw [List.drop_eq_nil_of_le (by omega)] at h
        have h : A.data.toList = R := by rw [← h]; show _ = _ ++ []; rw [List.append_nil]
        exact ByteArray.ext (Array.ext' h)
      subst hend
      clear HI hsz
      go_wp2
      go_ret
      exact ⟨by rw [HRe.out]; rfl, HBx.out⟩
    · have hlt : i < s.size := by omega
      have hil : (i : Int) < (s.size : Int) := by omega
      obtain ⟨c, hc⟩ : ∃ c, s[i]'hlt = c := ⟨_, rfl⟩
      have R1 := sl_one hlt hc
      have hw1 : IntKind.i64.wrap ((i : Int) + 1) = (i : Int) + 1 := by rw [IntKind.wrap_i64]; omega
      have HD := drop_c hlt hc
      have HA1 : Hid ((A ++ (⟨#[c]⟩ : ByteArray)).data.toList = A.data.toList ++ [c]) := app_list A c
      have HA2 : Hid ((A ++ (⟨#[c]⟩ : ByteArray)).size = A.size + 1) := app_size A c
      rw [HD] at HI
      have hcs : A.size + (⟨#[c]⟩ : ByteArray).size ≤ 9223372036854775807 := by show A.size + 1 ≤ _; omega
      have hct := UInt8.toNat_lt c
      have hBn := HBx.out
      by_cases hc32 : c = 32
      · have hc1 : (c.toNat : Int) = 32 := by rw [hc32]; rfl
        have HC : Hid (c = 32) := hc32
        clear hc32
        obtain ⟨AC, hAC⟩ : ∃ AC, A ++ (⟨#[c]⟩ : ByteArray) = AC := ⟨_, rfl⟩
        rw [hAC] at HA1 HA2
        by_cases hwn : n ≤ wd
        · have HI2 : Hid (AC.data.toList ++ spS (s.data.toList.drop (i + 1)) (B.drop kk) (n - wd) = R) := by
            have h := HI.out
            unfold spS at h
            rw [if_neg (fun z => absurd z.2 (by omega))] at h
            show AC.data.toList ++ _ = R
            rw [HA1.out, List.append_assoc]; exact h
          clear HI HD hsz hend hBn
          go_wp2
          refine ⟨⟨i + 1, kk, wd, AC, rfl, rfl, rfl, by go_num, by omega, hwd, by omega, by have := HA2.out; omega, HI2, ?_⟩, by simp [intOf]; omega⟩
          exact HBx
        · have HI2 : Hid (AC.data.toList ++ (runB (B.drop kk) ++ spS (s.data.toList.drop (i + 1)) (rstB (B.drop kk)) (n - wd - 1)) = R) := by
            have h := HI.out
            unfold spS at h
            rw [if_pos ⟨HC.out, by omega⟩] at h
            show AC.data.toList ++ _ = R
            rw [HA1.out, List.append_assoc]; exact h
          clear HI HD hsz hend hBn
          go_wp2
          go_loopw [7, 9] (fun sv kv wz => ∃ (k2 : Nat) (A2 : ByteArray), sv = .string A2 ∧ kv = .int .i64 (k2 : Int) ∧ k2 ≤ m + i ∧ A2.size ≤ i + 1 + k2 ∧ Hid (A2.data.toList ++ (runB (B.drop k2) ++ spS (s.data.toList.drop (i + 1)) (rstB (B.drop k2)) (n - wd - 1)) = R) ∧ Hid (Below w.heap.size w wz)) (fun _ kv _ => m - (intOf kv).toNat)
          case atStart => exact ⟨kk, AC, rfl, rfl, by omega, by have := HA2.out; omega, HI2.out, HBx.out⟩
          case round =>
            clear HI2 HBx hc R1 hct HC HA1 HA2 hA hAC hcs hkk
            obtain ⟨k2, A2, rfl, rfl, hk2, hA2, HJ, HBz⟩ := hrel
            have hk20 : (0 : Int) ≤ (k2 : Int) := by omega
            have hwk : IntKind.i64.wrap ((k2 : Int) + 1) = (k2 : Int) + 1 := by rw [IntKind.wrap_i64]; omega
            by_cases hkm : k2 < m
            · have hkl : (k2 : Int) < (m : Int) := by omega
              have hkB : k2 < B.length := by have := HM.out; omega
              obtain ⟨b, hbb⟩ : ∃ b, B[k2]'hkB = b := ⟨_, rfl⟩
              have hbr := Hb.out b (by rw [← hbb]; exact List.getElem_mem _)
              have hdr : B.drop k2 = b :: B.drop (k2 + 1) := by rw [List.drop_eq_getElem_cons hkB, hbb]
              obtain ⟨g, o, rfl, hg, hrg⟩ := (HR.out.below HBz.out (Nat.le_refl _)) (by omega)
              have hx : wr.cell? ⟨g, o + k2, none⟩ = some (.int .i64 b) := hrg k2 _ (by rw [List.getElem?_map, List.getElem?_eq_getElem hkB, hbb]; rfl)
              clear hrg hkB hbb
              by_cases hlv : b.tmod 5 = 0
              · have HJ2 : Hid (A2.data.toList ++ spS (s.data.toList.drop (i + 1)) (B.drop (k2 + 1)) (n - (wd + 1)) = R) := by
                  have h := HJ.out
                  have e : livB b = false := by unfold livB; rw [hlv]; rfl
                  unfold runB rstB at h
                  rw [hdr, List.takeWhile_cons, List.dropWhile_cons, e] at h
                  exact h
                clear HJ hdr
                go_wp2
                refine ⟨⟨i + 1, k2 + 1, wd + 1, A2, rfl, by go_num, by go_num, by go_num, by omega, by omega, by omega, by omega, ?_, HBz⟩, by simp [intOf]; omega⟩
                exact HJ2
              · have hlb : (b.tmod 5 == 0) = false := by rw [beq_eq_false_iff_ne]; exact hlv
                have HJ2 : Hid (A2.data.toList ++ [bk b] ++ (runB (B.drop (k2 + 1)) ++ spS (s.data.toList.drop (i + 1)) (rstB (B.drop (k2 + 1))) (n - wd - 1)) = R) := by
                  have h := HJ.out
                  have e : livB b = true := by unfold livB; rw [bne, hlb]; rfl
                  unfold runB rstB at h ⊢
                  rw [hdr, List.takeWhile_cons, List.dropWhile_cons, e] at h
                  rw [List.append_assoc]; exact h
                clear HJ hdr
                obtain ⟨pb, hpb, hpk⟩ : ∃ pb : Int, bits BinOp.and IntKind.i64 b 1 = pb ∧ ((pb = 0 ∧ bk b = 32) ∨ (pb = 1 ∧ bk b = 9)) := by
                  refine ⟨_, and_one b, ?_⟩
                  unfold bk
                  by_cases h : b % 2 = 0
                  · left; exact ⟨h, if_pos h⟩
                  · right; exact ⟨by omega, if_neg h⟩
                rcases hpk with ⟨rfl, hbk⟩ | ⟨rfl, hbk⟩
                · rw [hbk] at HJ2
                  clear hbk
                  have hcv := conv_byte wr ((⟨#[32, 9]⟩ : ByteArray)[0]'(by decide))
                  have hcs2 : A2.size + (⟨#[(⟨#[32, 9]⟩ : ByteArray)[0]'(by decide)]⟩ : ByteArray).size ≤ 9223372036854775807 := by show A2.size + 1 ≤ _; omega
                  go_wp2
                  refine ⟨⟨k2 + 1, _, rfl, by go_num, by omega, by rw [app_size]; omega, ?_, ?_⟩, by simp [intOf]; omega⟩
                  · show (A2 ++ _).data.toList ++ _ = R
                    rw [app_list]; exact HJ2.out
                  · exact HBz.out.trans (((Below.refl _ wr).alloc (Nat.le_refl _) _).mono HBz.out.size)
                · rw [hbk] at HJ2
                  clear hbk
                  have hcv := conv_byte wr ((⟨#[32, 9]⟩ : ByteArray)[1]'(by decide))
                  have hcs2 : A2.size + (⟨#[(⟨#[32, 9]⟩ : ByteArray)[1]'(by decide)]⟩ : ByteArray).size ≤ 9223372036854775807 := by show A2.size + 1 ≤ _; omega
                  go_wp2
                  refine ⟨⟨k2 + 1, _, rfl, by go_num, by omega, by rw [app_size]; omega, ?_, ?_⟩, by simp [intOf]; omega⟩
                  · show (A2 ++ _).data.toList ++ _ = R
                    rw [app_list]; exact HJ2.out
                  · exact HBz.out.trans (((Below.refl _ wr).alloc (Nat.le_refl _) _).mono HBz.out.size)
            · have hkm2 : ¬ (k2 : Int) < (m : Int) := by omega
              have HJ2 : Hid (A2.data.toList ++ spS (s.data.toList.drop (i + 1)) (B.drop (k2 + 1)) (n - (wd + 1)) = R) := by
                have h := HJ.out
                rw [(List.drop_eq_nil_of_le (by have := HM.out; omega) : B.drop k2 = [])] at h
                show A2.data.toList ++ spS _ (B.drop (k2 + 1)) _ = R
                rw [(List.drop_eq_nil_of_le (by have := HM.out; omega) : B.drop (k2 + 1) = [])]
                exact h
              clear HJ
              go_wp2
              refine ⟨⟨i + 1, k2 + 1, wd + 1, A2, rfl, by go_num, by go_num, by go_num, by omega, by omega, by omega, by omega, ?_, HBz⟩, by simp [intOf]; omega⟩
              exact HJ2
      · have HI2 : Hid (A.data.toList ++ [c] ++ spS (s.data.toList.drop (i + 1)) (B.drop kk) (n - wd) = R) := by
          have h := HI.out
          unfold spS at h
          rw [if_neg (fun z => hc32 z.1)] at h
          rw [List.append_assoc]; exact h
        clear HI HD hsz hend hBn
        obtain ⟨AC, hAC⟩ : ∃ AC, A ++ (⟨#[c]⟩ : ByteArray) = AC := ⟨_, rfl⟩
        rw [hAC] at HA1 HA2
        have hcn : ¬ (c.toNat : Int) = 32 := fun h => hc32 (UInt8.toNat_inj.1 (by show c.toNat = 32; omega))
        go_wp2
        refine ⟨⟨i + 1, kk, wd, AC, rfl, rfl, rfl, by go_num, by omega, hwd, by omega, by have := HA2.out; omega, ?_, ?_⟩, by simp [intOf]; omega⟩
        · show AC.data.toList ++ _ = R
          rw [HA1.out]; exact HI2.out
        · exact HBx
end Go.Proofs.YtichbejmelkjeaaDoor
namespace Go.Proofs.YtichbejmelkjeaaDoor
open Go.RowKit

set_option maxRecDepth 100000 in
set_option maxHeartbeats 2000000 in
theorem few_any (kd pk ln nn : Int) (nm cd tx : ByteArray) (off : Bool) (w : World) :
    Calls Tryd.prog 10 #[.agg #[.int .i64 kd, .int .i64 pk, .int .i64 ln, .string nm, .string cd, .bool off, .int .i64 nn, .string tx]] w fun e w' => e = .returned (.int .i64 ((fewS ⟨kd, pk, ln, nm.data.toList, cd.data.toList, off, nn, tx.data.toList⟩ : Nat) : Int)) ∧ Below w.heap.size w w' := by
  have hf : (kd = 16 ∧ fewS ⟨kd, pk, ln, nm.data.toList, cd.data.toList, off, nn, tx.data.toList⟩ = 1) ∨ (kd ≠ 16 ∧ cd ≠ ⟨#[]⟩ ∧ fewS ⟨kd, pk, ln, nm.data.toList, cd.data.toList, off, nn, tx.data.toList⟩ = 3) ∨ (kd ≠ 16 ∧ cd = ⟨#[]⟩ ∧ fewS ⟨kd, pk, ln, nm.data.toList, cd.data.toList, off, nn, tx.data.toList⟩ = 2) := by
    unfold fewS
    by_cases h : kd = 16
    · left; exact ⟨h, if_pos h⟩
    · right
      by_cases hc : cd = ⟨#[]⟩
      · right; refine ⟨h, hc, ?_⟩; simp only; rw [if_neg h, hc]; rfl
      · left
        refine ⟨h, hc, ?_⟩
        simp only
        rw [if_neg h, if_pos (fun q => hc (ByteArray.ext (Array.ext' q)))]
  generalize fewS ⟨kd, pk, ln, nm.data.toList, cd.data.toList, off, nn, tx.data.toList⟩ = N at hf
  go_enter Tryd.func10, Tryd.ntmps10
  rcases hf with ⟨h1, hN⟩ | ⟨h1, h2, hN⟩ | ⟨h1, h2, hN⟩
  · subst hN
    go_wp2
    go_ret
    exact ⟨rfl, (Below.refl _ w).alloc (Nat.le_refl _) _⟩
  · subst hN
    have he : cd.toList.isEmpty = false := by
      rw [Lx.toL, List.isEmpty_eq_false_iff]
      exact fun q => h2 (ByteArray.ext (Array.ext' q))
    go_wp2
    go_ret
    exact ⟨rfl, (Below.refl _ w).alloc (Nat.le_refl _) _⟩
  · subst hN
    subst h2
    go_wp2
    go_ret
    exact ⟨rfl, (Below.refl _ w).alloc (Nat.le_refl _) _⟩
end Go.Proofs.YtichbejmelkjeaaDoor
namespace Go.Proofs.YtichbejmelkjeaaDoor
open Go.RowKit

theorem shp_len {c : Cm} {k : Nat} {w e : List UInt8} (h : Shp c k w e) : w.length + e.length ≤ (lay k w e [] [32] [32] [32] []).length := by
  unfold lay
  cases h with
  | one _ ht => simp
  | pnt _ _ _ c' ht hw he hc =>
    rw [if_pos ht]
    by_cases h0 : e = []
    · rw [if_pos h0, h0]; simp; omega
    · rw [if_neg h0]; simp; omega
  | num _ _ ht hw hc => rw [if_neg (by omega), if_pos (.inl ht)]; simp; omega
  | pos _ _ ht hw hc => rw [if_neg (by omega), if_pos (.inr ht)]; simp; omega
  | prt _ _ ht he h0 => rw [if_neg (by omega), if_neg (by omega), if_pos ht]; simp; omega
theorem num_rng {w : List UInt8} (h : (numO w).2 = true) : 0 ≤ (numO w).1 ∧ (numO w).1 ≤ 9223372036854775807 := (rn_yes h).2
theorem pos_rng {w : List UInt8} (h : (posO w).2 = true) : -9223372036854775808 ≤ (posO w).1 ∧ (posO w).1 ≤ 9223372036854775807 := by
  unfold posO at h ⊢
  split at h
  · rename_i r
    simp only at h
    rw [Bool.and_eq_true] at h
    have := num_rng h.1
    show -9223372036854775808 ≤ IntKind.i64.wrap (-(numO r).1) ∧ IntKind.i64.wrap (-(numO r).1) ≤ 9223372036854775807
    rw [IntKind.wrap_i64]
    omega
  · have := num_rng h
    omega
theorem pnt_rng {t : Nat} {w e : List UInt8} {c : Cm} (h : pntO t w e = some c) : (0 ≤ c.line ∧ c.line ≤ 9223372036854775807) ∧ c.name.length ≤ w.length := by
  unfold pntO at h
  split at h
  · rename_i h1
    cases h
    exact ⟨⟨by simp [cm0], by simp [cm0]⟩, by rw [(whl_name h1.1).1]; exact Nat.le_refl _⟩
  · split at h
    · rename_i h1
      cases h
      exact ⟨⟨by simp [cm0], by simp [cm0]⟩, by rw [(whl_name h1).1]; exact Nat.le_refl _⟩
    · split at h
      · rename_i h1
        cases h
        have := num_rng (w := w) (by unfold numO; simp [h1.1])
        exact ⟨this, by simp [cm0]⟩
      · cases h
/-- What is read is small. -/
theorem par_small {l : List UInt8} {c : Cm} (h : parP l = some c) : (-9223372036854775808 ≤ c.line ∧ c.line ≤ 9223372036854775807) ∧ (-9223372036854775808 ≤ c.n ∧ c.n ≤ 9223372036854775807) ∧ c.name.length ≤ 300 ∧ c.cond.length ≤ 300 ∧ c.text.length ≤ 300 ∧ c.off = false ∧ (lnS c).length ≤ l.length ∧ l.length ≤ 300 := by
  obtain ⟨hl, -, k, w, e, hk, hs, hln, -⟩ := par_shp h
  have h1 := shp_len hs
  rw [← ln_lay hs hk] at h1
  cases hs with
  | one _ ht => exact ⟨⟨by simp [cm0], by simp [cm0]⟩, ⟨by simp [cm0], by simp [cm0]⟩, by simp [cm0], by simp [cm0], by simp [cm0], rfl, hln, hl⟩
  | pnt _ _ _ c' ht hw he hc =>
    obtain ⟨g1, g2⟩ := pnt_rng hc
    obtain ⟨-, h2, h3, h4, h5⟩ := pnt_word hc
    refine ⟨⟨by show _ ≤ c'.line; omega, g1.2⟩, ⟨by show _ ≤ c'.n; omega, by show c'.n ≤ _; omega⟩, by show c'.name.length ≤ _; omega, by show c'.cond.length ≤ _; rw [h2]; omega, by show c'.text.length ≤ _; rw [h4]; simp, h5, hln, hl⟩
  | num _ _ ht hw hc =>
    have := num_rng hc
    exact ⟨⟨by simp [cm0], by simp [cm0]⟩, ⟨by show _ ≤ (numO w).1; omega, this.2⟩, by simp [cm0], by simp [cm0], by simp [cm0], rfl, hln, hl⟩
  | pos _ _ ht hw hc => exact ⟨⟨by simp [cm0], by simp [cm0]⟩, pos_rng hc, by simp [cm0], by simp [cm0], by simp [cm0], rfl, hln, hl⟩
  | prt _ _ ht he h0 => exact ⟨⟨by simp [cm0], by simp [cm0]⟩, ⟨by simp [cm0], by simp [cm0]⟩, by simp [cm0], by simp [cm0], by show e.length ≤ 300; omega, rfl, hln, hl⟩
theorem neqSame (k0 p0 l0 : Int) (n0 d0 : ByteArray) (m0 : Int) (t0 : ByteArray) : ∀ w : World,
    (binOp BinOp.neq 39 (.agg #[.int .i64 k0, .int .i64 p0, .int .i64 l0, .string n0, .string d0, .bool false, .int .i64 m0, .string t0]) (.agg #[.int .i64 k0, .int .i64 p0, .int .i64 l0, .string n0, .string d0, .bool false, .int .i64 m0, .string t0])).run Tryd.prog w = .ok (.bool false) w := fun w => by simp [go_sem]
theorem eqSameB (k0 p0 l0 : Int) (n0 d0 : ByteArray) (m0 : Int) (t0 : ByteArray) : ∀ w : World,
    (binOp BinOp.eql 39 (.agg #[.int .i64 k0, .int .i64 p0, .int .i64 l0, .string n0, .string d0, .bool false, .int .i64 m0, .string t0]) (.agg #[.int .i64 k0, .int .i64 p0, .int .i64 l0, .string n0, .string d0, .bool false, .int .i64 m0, .string t0])).run Tryd.prog w = .ok (.bool true) w := fun w => by simp [go_sem]
theorem ba_eqB {a b : ByteArray} (h : a.data.toList = b.data.toList) : a = b := ByteArray.ext (Array.ext' h)
theorem ba_len (a : ByteArray) : a.size = a.data.toList.length := Lib.size_eq a
/-- A line that is spread grows by the numbers at most. -/
theorem spS_len : ∀ (L : List UInt8) (B : List Int) (n : Nat), (spS L B n).length ≤ L.length + B.length := by
  intro L
  induction L with
  | nil => intro B n; simp [spS]
  | cons c r ih =>
    intro B n
    unfold spS
    split
    · have h1 := ih (rstB B) (n - 1)
      have h2 : (runB B).length + (rstB B).length ≤ B.length := by
        have h3 := congrArg List.length (List.takeWhile_append_dropWhile (p := livB) (l := B))
        rw [List.length_append] at h3
        unfold runB rstB
        rw [List.length_map, List.length_drop]
        omega
      simp only [List.length_cons, List.length_append]
      omega
    · have h1 := ih B n
      simp only [List.length_cons]
      omega
theorem text_par {L : List UInt8} {k a1 a2 a6 : Int} {a3 a4 a7 : ByteArray} (h : parP L = some ⟨k, a1, a2, a3.data.toList, a4.data.toList, false, a6, a7.data.toList⟩) (W : World) (hT : Tb W) :
    Calls Tryd.prog 7 #[.agg #[.int .i64 k, .int .i64 a1, .int .i64 a2, .string a3, .string a4, .bool false, .int .i64 a6, .string a7]] W (TxP W ⟨k, a1, a2, a3.data.toList, a4.data.toList, false, a6, a7.data.toList⟩) := by
  obtain ⟨h1, h2, h3, h4, h5, -⟩ := par_small h
  exact text_any k a1 a2 a6 a3 a4 a7 false W hT h1 h2 ⟨by rw [Lib.size_eq]; exact Nat.le_trans h3 (by omega), by rw [Lib.size_eq]; exact Nat.le_trans h4 (by omega), by rw [Lib.size_eq]; exact Nat.le_trans h5 (by omega)⟩
end Go.Proofs.YtichbejmelkjeaaDoor
namespace Go.Proofs.YtichbejmelkjeaaDoor
open Go.ChangeShapes Go.WideShapes Go.ChangeAt Go.RowKit

theorem bulk_pos {H : Type} (d : DataW H) : 1 ≤ Rows.uptoBulk d := by
  cases d with
  | lit l => cases l <;> simp [Rows.uptoBulk]
  | _ => simp [Rows.uptoBulk]
theorem list4 {α : Type} {xs : List α} (h : xs.length = 4) : ∃ c0 c1 c2 c3, xs = [c0, c1, c2, c3] := by
  match xs, h with
  | [c0, c1, c2, c3], _ => exact ⟨c0, c1, c2, c3, rfl⟩
theorem list5 {α : Type} {xs : List α} (h : xs.length = 5) : ∃ c0 c1 c2 c3 c4, xs = [c0, c1, c2, c3, c4] := by
  match xs, h with
  | [c0, c1, c2, c3, c4], _ => exact ⟨c0, c1, c2, c3, c4, rfl⟩
theorem wf_i64 {n : Int} (h : (Lit.int .i64 n).wf = true) : -9223372036854775808 ≤ n ∧ n ≤ 9223372036854775807 := by simpa [Lit.wf, IntKind.min, IntKind.max, IntKind.signed, IntKind.bits] using h
theorem plain_of_cell {w : World} {a : Addr} {v : Value} (h : w.cell? a = some v) : a = ⟨a.block, a.off, none⟩ ∧ a.block < w.heap.size := by
  refine ⟨?_, World.block_lt_of_cell? w a h⟩
  obtain ⟨b, o, sp⟩ := a
  cases sp with
  | none => rfl
  | some q =>
    unfold World.cell? at h
    split at h
    · simp at h
    · cases h
theorem list3 {α : Type} {xs : List α} (h : xs.length = 3) : ∃ c0 c1 c2, xs = [c0, c1, c2] := by
  match xs, h with
  | [c0, c1, c2], _ => exact ⟨c0, c1, c2, rfl⟩
theorem cBth : Tryd.prog.cellsOf 42 = 10 := by kernel_rfl
theorem cSlI : Tryd.prog.cellsOf 40 = 1 := by kernel_rfl
theorem cCmd : Tryd.prog.cellsOf 39 = 8 := by kernel_rfl
theorem cPoi : Tryd.prog.cellsOf 37 = 5 := by kernel_rfl
theorem cCk : Tryd.prog.cellsOf 34 = 1 := by kernel_rfl
theorem cPk : Tryd.prog.cellsOf 35 = 1 := by kernel_rfl
theorem cIn : Tryd.prog.cellsOf 3 = 1 := by kernel_rfl
theorem cBo : Tryd.prog.cellsOf 4 = 1 := by kernel_rfl
section
variable {H : Type} {enc : TypeId × Value → H} {W : World} {base : Nat} {spare : Nat → Bool} {held : Bool}
theorem op_strB (n : Nat) (c : Value) (y : DataW H × List MemPlace) (h : DataW.trod enc Tryd.prog W base spare held n 9 [c] = some y) : ∃ a : ByteArray, c = .string a ∧ a.size + 1 = Rows.uptoBulk y.1 := by
  obtain ⟨a, e, rfl, -⟩ := DataW.trod_string Tryd.underlying9 h
  simp at e
  exact ⟨a, e, by show a.size + 1 = a.data.toList.length + 1; rw [Lib.size_eq]⟩
theorem op_intB {t : TypeId} (ht : Tryd.prog.underlying t = some (.int .i64)) (n : Nat) (c : Value) (y : DataW H × List MemPlace) (h : DataW.trod enc Tryd.prog W base spare held n t [c] = some y) : ∃ a : Int, c = .int .i64 a ∧ -9223372036854775808 ≤ a ∧ a ≤ 9223372036854775807 := by
  obtain ⟨a, e, -, w⟩ := DataW.trod_int ht h
  simp at e
  exact ⟨a, e, wf_i64 w⟩
theorem op_point (n : Nat) (c0 c1 c2 c3 c4 : Value) (y : DataW H × List MemPlace) (h : DataW.trod enc Tryd.prog W base spare held n 37 [c0, c1, c2, c3, c4] = some y) (hb : Rows.uptoBulk y.1 ≤ 1048576) : ∃ (pk ln : Int) (nm cd : ByteArray) (off : Bool), c0 = .int .i64 pk ∧ c1 = .int .i64 ln ∧ c2 = .string nm ∧ c3 = .string cd ∧ c4 = .bool off ∧ (-9223372036854775808 ≤ ln ∧ ln ≤ 9223372036854775807) ∧ nm.size ≤ 1048576 ∧ cd.size ≤ 1048576 := by
  obtain ⟨zs, m, _, hy, _, hlen, hgs⟩ := DataW.trod_struct Tryd.underlying37 h
  obtain ⟨z0, z1, z2, z3, z4, rfl⟩ := list5 hlen
  have g0 : DataW.trod enc Tryd.prog W base spare held m 35 [c0] = some z0 := by have := hgs 0 _ rfl; simpa [cPk] using this
  have g1 : DataW.trod enc Tryd.prog W base spare held m 3 [c1] = some z1 := by have := hgs 1 _ rfl; simpa [cPk, cIn] using this
  have g2 : DataW.trod enc Tryd.prog W base spare held m 9 [c2] = some z2 := by have := hgs 2 _ rfl; simpa [cPk, cIn, cStr] using this
  have g3 : DataW.trod enc Tryd.prog W base spare held m 9 [c3] = some z3 := by have := hgs 3 _ rfl; simpa [cPk, cIn, cStr] using this
  have g4 : DataW.trod enc Tryd.prog W base spare held m 4 [c4] = some z4 := by have := hgs 4 _ rfl; simpa [cPk, cIn, cStr, cBo] using this
  obtain ⟨pk, rfl, -⟩ := op_intB Tryd.underlying35 m c0 z0 g0
  obtain ⟨ln, rfl, hl⟩ := op_intB Tryd.underlying3 m c1 z1 g1
  obtain ⟨nm, rfl, h2⟩ := op_strB m c2 z2 g2
  obtain ⟨cd, rfl, h3⟩ := op_strB m c3 z3 g3
  obtain ⟨off, e4, -⟩ := DataW.trod_bool Tryd.underlying4 g4
  simp at e4
  subst hy
  simp only [List.map_cons, List.map_nil, Rows.uptoBulk, Rows.uptoBulkAll] at hb
  exact ⟨pk, ln, nm, cd, off, rfl, rfl, rfl, rfl, e4, hl, by omega, by omega⟩
/-- The number of a datum. -/
def inD (d : DataW H) : Int := match d with | .lit (.int _ n) => n | _ => 0
theorem bulk_len : ∀ l : List (DataW H), l.length ≤ Rows.uptoBulkAll l := by
  intro l
  induction l with
  | nil => simp
  | cons d l ih =>
    simp only [Rows.uptoBulkAll, List.length_cons]
    have := bulk_pos d
    omega
theorem slice_ints {fuel : Nat} {c : Value} {x : DataW H × List MemPlace} (h : DataW.trod enc Tryd.prog W base spare held fuel 40 [c] = some x) : ∃ (q : Option Addr) (cap : Nat) (L : List Int), c = .slice q L.length cap ∧ L.length ≤ Rows.uptoBulk x.1 ∧ Row W W.heap.size q L.length (L.map iv) ∧ ∀ b ∈ L, -9223372036854775808 ≤ b ∧ b ≤ 9223372036854775807 := by
  rcases DataW.trod_slice Tryd.underlying40 h with ⟨h0, _⟩ | ⟨a, len, cap, elems, rest, n, _, h0, rfl, _, hlc, _, hlen, hel, _, _⟩
  · exact ⟨none, 0, [], by simpa using h0, by simp, fun h => by simp at h, fun b hb => by cases hb⟩
  · have str : ∀ i, i < len → ∃ (b : Int) (y : DataW H × List MemPlace), elems[i]? = some y ∧ inD y.1 = b ∧ W.cell? (a.add i) = some (.int .i64 b) ∧ -9223372036854775808 ≤ b ∧ b ≤ 9223372036854775807 := by
      intro i hi
      have := hel i hi
      rw [cIn, List.getElem?_eq_getElem (by omega), Option.bind_eq_some_iff] at this
      obtain ⟨cs, h1, h2⟩ := this
      obtain ⟨b, rfl, hy, hw⟩ := DataW.trod_int Tryd.underlying3 h2
      obtain ⟨_, _, h4⟩ := World.cells?_some h1
      have h5 := h4 0 (by omega)
      refine ⟨b, _, List.getElem?_eq_getElem (by omega), by rw [hy]; rfl, ?_, wf_i64 hw⟩
      rw [Nat.mul_one] at h5
      simpa [Addr.add] using h5
    have hll : ((elems.map (·.1)).map inD).length = len := by rw [List.length_map, List.length_map, hlen]
    refine ⟨some a, cap, (elems.map (·.1)).map inD, by rw [hll]; simpa using h0, ?_, fun hp => ?_, fun b hb => ?_⟩
    · have := bulk_len (elems.map (·.1))
      rw [List.length_map]
      show _ ≤ Rows.uptoBulk _
      simp only [Rows.uptoBulk]
      omega
    · rw [hll] at hp
      obtain ⟨s0, y0, -, -, c0, -⟩ := str 0 hp
      have ha0 : a.add 0 = a := by simp [Addr.add]
      rw [ha0] at c0
      obtain ⟨ha, hg⟩ := plain_of_cell c0
      refine ⟨a.block, a.off, congrArg some ha, hg, fun j v hv => ?_⟩
      have hj : j < len := by
        have := (List.getElem?_eq_some_iff.1 hv).1
        rw [List.length_map, hll] at this
        exact this
      obtain ⟨b, y, hy, hyb, hc, -⟩ := str j hj
      rw [List.getElem?_map, List.getElem?_map, List.getElem?_map, hy] at hv
      simp only [Option.map_some, Option.some.injEq] at hv
      rw [← hv, hyb]
      rw [ha, Addr.add_mid] at hc
      exact hc
    · obtain ⟨j, hj, hjb⟩ := List.getElem_of_mem hb
      obtain ⟨z, y, hy, hyb, -, hz⟩ := str j (by omega)
      have : ((elems.map (·.1)).map inD)[j]? = some b := by rw [List.getElem?_eq_getElem hj, hjb]
      rw [List.getElem?_map, List.getElem?_map, hy] at this
      simp only [Option.map_some, Option.some.injEq] at this
      rw [← this, hyb]; exact hz
theorem op_cmd (n : Nat) (c0 c1 c2 c3 c4 c5 c6 c7 : Value) (y : DataW H × List MemPlace) (h : DataW.trod enc Tryd.prog W base spare held n 39 [c0, c1, c2, c3, c4, c5, c6, c7] = some y) (hb : Rows.uptoBulk y.1 ≤ 1048576) :
    ∃ (kd pk ln nn : Int) (nm cd tx : ByteArray) (off : Bool), c0 = .int .i64 kd ∧ c1 = .int .i64 pk ∧ c2 = .int .i64 ln ∧ c3 = .string nm ∧ c4 = .string cd ∧ c5 = .bool off ∧ c6 = .int .i64 nn ∧ c7 = .string tx ∧ (-9223372036854775808 ≤ ln ∧ ln ≤ 9223372036854775807) ∧ (-9223372036854775808 ≤ nn ∧ nn ≤ 9223372036854775807) ∧ nm.size ≤ 1048576 ∧ cd.size ≤ 1048576 ∧ tx.size ≤ 1048576 := by
  obtain ⟨xs, m, _, hx, _, hlen, hfs⟩ := DataW.trod_struct Tryd.underlying39 h
  obtain ⟨z0, z1, z2, z3, rfl⟩ := list4 hlen
  have g0 : DataW.trod enc Tryd.prog W base spare held m 34 [c0] = some z0 := by have := hfs 0 _ rfl; simpa [cCk] using this
  have g1 : DataW.trod enc Tryd.prog W base spare held m 37 [c1, c2, c3, c4, c5] = some z1 := by have := hfs 1 _ rfl; simpa [cCk, cPoi] using this
  have g2 : DataW.trod enc Tryd.prog W base spare held m 3 [c6] = some z2 := by have := hfs 2 _ rfl; simpa [cCk, cPoi, cIn] using this
  have g3 : DataW.trod enc Tryd.prog W base spare held m 9 [c7] = some z3 := by have := hfs 3 _ rfl; simpa [cCk, cPoi, cIn, cStr] using this
  subst hx
  simp only [List.map_cons, List.map_nil, Rows.uptoBulk, Rows.uptoBulkAll] at hb
  obtain ⟨kd, rfl, -⟩ := op_intB Tryd.underlying34 m c0 z0 g0
  obtain ⟨pk, ln, nm, cd, off, rfl, rfl, rfl, rfl, rfl, hl, h3, h4⟩ := op_point m c1 c2 c3 c4 c5 z1 g1 (by omega)
  obtain ⟨nn, rfl, hn⟩ := op_intB Tryd.underlying3 m c6 z2 g2
  obtain ⟨tx, rfl, h7⟩ := op_strB m c7 z3 g3
  exact ⟨kd, pk, ln, nn, nm, cd, tx, off, rfl, rfl, rfl, rfl, rfl, rfl, rfl, rfl, hl, hn, h3, h4, by omega⟩
set_option maxRecDepth 100000 in
theorem open_both {b0 : Nat} {r : Reach} {v : Value} {d : DataW H} {p : List MemPlace} (hv : Value.okWide Tryd.prog W r b0 42 v) (h : DataW.Trod enc Tryd.prog W base spare held 42 v d p) (hb : Rows.uptoBulk d ≤ 1048576) :
    ∃ (kd pk ln nn : Int) (nm cd tx l : ByteArray) (off : Bool) (q : Option Addr) (cap : Nat) (B : List Int), v = .agg #[.int .i64 kd, .int .i64 pk, .int .i64 ln, .string nm, .string cd, .bool off, .int .i64 nn, .string tx, .string l, .slice q B.length cap] ∧ (-9223372036854775808 ≤ ln ∧ ln ≤ 9223372036854775807) ∧ (-9223372036854775808 ≤ nn ∧ nn ≤ 9223372036854775807) ∧ nm.size ≤ 1048576 ∧ cd.size ≤ 1048576 ∧ tx.size ≤ 1048576 ∧ B.length ≤ 1048576 ∧ Row W W.heap.size q B.length (B.map iv) ∧ ∀ b ∈ B, -9223372036854775808 ≤ b ∧ b ≤ 9223372036854775807 := by
  obtain ⟨cs, rfl, hsz⟩ := okWide_struct Tryd.underlying42 hv
  obtain ⟨c0, c1, c2, c3, c4, c5, c6, c7, c8, c9, rfl⟩ : ∃ c0 c1 c2 c3 c4 c5 c6 c7 c8 c9, cs = #[c0, c1, c2, c3, c4, c5, c6, c7, c8, c9] := by
    have h1 : cs.size = 10 := hsz.trans cBth
    obtain ⟨l⟩ := cs
    match l, h1 with
    | [c0, c1, c2, c3, c4, c5, c6, c7, c8, c9], _ => exact ⟨c0, c1, c2, c3, c4, c5, c6, c7, c8, c9, rfl⟩
  obtain ⟨fuel, hf⟩ := h
  obtain ⟨xs, m, _, hx, _, hlen, hfs⟩ := DataW.trod_struct Tryd.underlying42 hf
  obtain ⟨z0, z1, z2, rfl⟩ := list3 hlen
  have g0 : DataW.trod enc Tryd.prog W base spare held m 39 [c0, c1, c2, c3, c4, c5, c6, c7] = some z0 := by have := hfs 0 _ rfl; simpa [Value.cells, cCmd] using this
  have g1 : DataW.trod enc Tryd.prog W base spare held m 9 [c8] = some z1 := by have := hfs 1 _ rfl; simpa [Value.cells, cCmd, cStr] using this
  have g2 : DataW.trod enc Tryd.prog W base spare held m 40 [c9] = some z2 := by have := hfs 2 _ rfl; simpa [Value.cells, cCmd, cStr, cSlI] using this
  simp only [Prod.mk.injEq] at hx
  have hd0 := hx.1
  subst hd0
  simp only [List.map_cons, List.map_nil, Rows.uptoBulk, Rows.uptoBulkAll] at hb
  obtain ⟨kd, pk, ln, nn, nm, cd, tx, off, rfl, rfl, rfl, rfl, rfl, rfl, rfl, rfl, hl, hn, h1, h2, h3⟩ := op_cmd m c0 c1 c2 c3 c4 c5 c6 c7 z0 g0 (by omega)
  obtain ⟨l, rfl, -⟩ := op_strB m c8 z1 g1
  obtain ⟨q, cap, B, rfl, hB, hR, hb9⟩ := slice_ints g2
  exact ⟨kd, pk, ln, nn, nm, cd, tx, l, off, q, cap, B, rfl, hl, hn, h1, h2, h3, by omega, hR, hb9⟩
end
end Go.Proofs.YtichbejmelkjeaaDoor
