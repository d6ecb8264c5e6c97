import Derived.Test.YtljhobjgofhldaaDoordLs
namespace Go.Proofs.YtljhobjgofhldaaDoor
open Go.RowKit

set_option maxRecDepth 100000 in
set_option maxHeartbeats 4000000 in
theorem lists_any {w : World} {q : Option Addr} (cap : Nat) {Ls : List (List V)} (hA : ArrAt w w.heap.size q Ls) (h0 : Ls.length * 24 ≤ 140737488351232) (h1 : ∀ L ∈ Ls, L.length * 32 ≤ 140737488351232) :
    Calls Tryd.prog 4 #[.slice q Ls.length cap] w fun e w' => e = .returned (.slice (some ⟨w.heap.size, 0, none⟩) Ls.length (Ls.length + 1)) ∧ Hid (∃ Gs h, LsW w' w.heap.size w.heap.size Gs h Ls ∧ Below w.heap.size w w') := by
  obtain ⟨Z, hZ, hmk⟩ := mk_of Tryd.underlying23 info_L Ls.length (by omega) (by omega)
  have hup := up_run Tryd.underlying23 sz_L ⟨w.heap.size, 0, none⟩ (Ls.length + 1) (Ls.length + 1) Ls.length (by omega)
  have hn : (Ls.length : Int) ≤ 17592186043904 := by omega
  have hn0 : (0 : Int) ≤ (Ls.length : Int) := by omega
  have hn1 : (Ls.length : Int) < (Ls.length : Int) + 1 := by omega
  have hZl : Z.toList.length = Ls.length + 1 := by rw [Array.length_toList, hZ, Nat.mul_one]
  obtain ⟨X, hX⟩ : ∃ X, w.alloc (.cells Z 35) = X := ⟨_, rfl⟩
  have H0 : Hid (LsI w X [] Ls Z 0) := by
    rw [← hX]
    refine ⟨(Below.refl _ w).alloc (Nat.le_refl _) _, rfl, ?_, fun k hk => absurd hk (Nat.not_lt_zero _), (fun x hx => by cases hx), List.nodup_nil⟩
    rw [List.drop_zero, List.take_zero]
    exact Full.new w Z _
  have HZ : Hid (Z.toList.length = Ls.length + 1) := hZl
  have HA : Hid (ArrAt w w.heap.size q Ls) := hA
  have H1 : Hid (∀ L ∈ Ls, L.length * 32 ≤ 140737488351232) := h1
  clear hA hZ hZl h1 h0
  go_enter Tryd.func4, Tryd.ntmps4
  go_wp2_with fail
  go_loopw [4] (fun i wr => ∃ j : Nat, j ≤ Ls.length ∧ i = .int .i64 (j : Int) ∧ Hid (∃ Gs, LsI w wr Gs Ls Z j)) (fun i _ => Ls.length - (intOf i).toNat)
  case atStart => exact ⟨0, Nat.zero_le _, rfl, [], H0.out⟩
  case round =>
    obtain ⟨i, hi, rfl, hI0⟩ := hrel
    obtain ⟨Gs, hI1⟩ := hI0.out
    have hI : Hid (LsI w wr Gs Ls Z i) := hI1
    clear hI0 hI1 H0 hX hmk
    have i0 : (0 : Int) ≤ (i : Int) := by omega
    by_cases hlt : i < Ls.length
    case neg =>
      obtain rfl : i = Ls.length := by omega
      have HF := hI.out.fin HZ.out
      obtain ⟨z, hz⟩ := drop_one (l := Z.toList) (j := Ls.length) (by rw [HZ.out]; omega)
      have nb : Below wr.heap.size wr (wr.alloc (.cells #[.int .i64 78, .int .i64 0, .string ⟨#[]⟩] 26)) := (Below.refl _ wr).alloc (Nat.le_refl _) _
      have hc := (hI.out.out.next nb).cell Ls.length z (by rw [List.getElem?_append_right (by rw [List.take_length, zipL_len hI.out.len]; omega), List.take_length, zipL_len hI.out.len, Nat.sub_self, hz]; rfl)
      obtain ⟨c0, c1⟩ := hc
      have HF' : Hid (LsW _ _ _ _ _ _ ∧ Below _ _ _) := HF
      have p1 : ¬ (Ls.length : Int) < (Ls.length : Int) := by omega
      clear hI hz HF nb
      go_wp2
      first | (change bodyPost Tryd.prog Tryd.f4 _ Exit.ret _ _) | (simp only [Exit.noGoto])
      go_ret
      exact ⟨rfl, ⟨Gs, wr.heap.size, HF'.out.1⟩, HF'.out.2⟩
    obtain ⟨wo, rfl⟩ : ∃ wo, wo = wr := ⟨wr, rfl⟩
    obtain ⟨g, o, p, c, rfl, hg, hcl, hcc, h5⟩ := HA.out i hlt
    have hL := H1.out Ls[i] (List.getElem_mem hlt)
    have HSt : Hid (∀ Y, Below wo.heap.size wo Y → Full Y wo.heap.size 26 (Ls[i].flatMap vc ++ vc mk77) → LsI w (Y.setCell ⟨w.heap.size, i, none⟩ (.slice (some ⟨wo.heap.size, 0, none⟩) Ls[i].length (Ls[i].length + 1))) (Gs ++ [wo.heap.size]) Ls Z (i + 1)) := fun Y hb hf => hI.out.step hlt HZ.out hb hf
    have HOut : Hid (∀ Y, Below wo.heap.size wo Y → ∃ z, Y.cell? ⟨w.heap.size, i, none⟩ = some z ∧ Y.frozen? ⟨w.heap.size, i, none⟩ = false) := fun Y hb => by
      obtain ⟨z, hz⟩ := drop_one (l := Z.toList) (j := i) (by rw [HZ.out]; omega)
      exact ⟨z, (hI.out.out.next hb).cell i z (by rw [List.getElem?_append_right (by rw [zipL_len (by rw [List.length_take, hI.out.len]; omega), List.length_take]; omega), zipL_len (by rw [List.length_take, hI.out.len]; omega), List.length_take, show i - min i Ls.length = 0 by omega, hz]; rfl)⟩
    have HB : Hid (Below w.heap.size w wo) := hI.out.bel
    generalize Ls[i] = L at *
    obtain ⟨Zi, hZi, mkI⟩ := mk_of Tryd.underlying35 info_V L.length (by omega) (by omega)
    have upI := up_run Tryd.underlying35 sz_V ⟨wo.heap.size, 0, none⟩ (L.length + 1) (L.length + 1) L.length (by omega)
    have HZi : Hid (Zi.size = (L.length + 1) * 3) := hZi
    have HCL : Hid (∀ Y, Below wo.heap.size wo Y → Y.cell? ⟨g, o + i, none⟩ = some (.slice p L.length c)) := fun Y hb => ((HB.out.trans (hb.mono HB.out.size)).cell (p := ⟨g, o + i, none⟩) hg).trans hcl
    have HE : Hid (∀ Y, Below wo.heap.size wo Y → ∀ j (hj : j < L.length), ∃ b r, p = some ⟨b, r, none⟩ ∧ Y.cell? ⟨b, r + j * 3, none⟩ = some (.int .i64 L[j].1) ∧ Y.cell? ⟨b, r + j * 3 + 1, none⟩ = some (.int .i64 L[j].2.1) ∧ Y.cell? ⟨b, r + j * 3 + 2, none⟩ = some (.string L[j].2.2)) := fun Y hb j hj => by
      have hbb := HB.out.trans (hb.mono HB.out.size)
      obtain ⟨b', r', k1, k2, k3, k4, k5, k6⟩ := h5 j hj
      refine ⟨b', r', k1, ?_⟩
      rw [Nat.mul_comm j 3]
      exact ⟨(hbb.cell (p := ⟨b', r' + 3 * j, none⟩) k2).trans k4, (hbb.cell (p := ⟨b', r' + 3 * j + 1, none⟩) k2).trans k5, (hbb.cell (p := ⟨b', r' + 3 * j + 2, none⟩) k2).trans k6⟩
    obtain ⟨X1, hX1⟩ : ∃ X1, wo.alloc (.cells Zi 26) = X1 := ⟨_, rfl⟩
    have H2 : Hid (FlI wo X1 L Zi 0) := by
      rw [← hX1]
      refine ⟨?_, (Below.refl _ wo).alloc (Nat.le_refl _) _⟩
      rw [Nat.zero_mul, List.drop_zero, List.take_zero]
      exact Full.new wo Zi _
    have mkX := mkI wo
    rw [hX1] at mkX
    have c0 := HCL.out wo (Below.refl _ _)
    have c1 := HCL.out X1 H2.out.2
    have i1 : (i : Int) < (Ls.length : Int) := by omega
    have i2 : (i : Int) < (Ls.length : Int) + 1 := by omega
    have hLn : (L.length : Int) ≤ 17592186043904 := by omega
    have hLn0 : (0 : Int) ≤ (L.length : Int) := by omega
    have hLn1 : (L.length : Int) < (L.length : Int) + 1 := by omega
    have HLT : Hid (i < Ls.length) := hlt
    clear hI HA H1 hcl h5 hL hZi mkI hX1 hlt hi
    go_wp2_with fail
    clear mkX c0 c1
    go_loopw [6] (fun jv wr => ∃ j : Nat, j ≤ L.length ∧ jv = .int .i64 (j : Int) ∧ Hid (FlI wo wr L Zi j)) (fun jv _ => L.length - (intOf jv).toNat)
    case atStart => exact ⟨0, Nat.zero_le _, rfl, H2⟩
    case round =>
      obtain ⟨j, hj, rfl, hI⟩ := hrel
      clear H2
      have c0 := HCL.out wr hI.out.2
      have j0 : (0 : Int) ≤ (j : Int) := by omega
      by_cases hlt : j < L.length
      case pos =>
        obtain ⟨b, r, rfl, d0, d1, d2⟩ := HE.out wr hI.out.2 j hlt
        have TH : Hid (wr.there wo.heap.size (j * 3) 3) := hI.out.th hj HZi.out
        have HS := hI.out.step hlt HZi.out
        obtain ⟨W1, hW1⟩ : ∃ W1, Hid (wr.setCells wo.heap.size (j * 3) (vc L[j]) = W1) := hid_ex _
        rw [hW1.out] at HS
        have HS' : Hid (FlI wo W1 L Zi (j + 1)) := HS
        generalize L[j] = x at *
        obtain ⟨k, n, s⟩ := x
        simp only at d0 d1 d2
        have HW : Hid (wr.setCells wo.heap.size (j * 3) (#[.int .i64 k, .int .i64 n, .string s] : Array Value).toList = W1) := hW1.out
        have j1 : (j : Int) < (L.length : Int) := by omega
        have j2 : (j : Int) < (L.length : Int) + 1 := by omega
        clear HS hW1 hI
        go_wp2_with (first
          | (refine wpList_store_mid (by rfl) 26 (.tmp 42) (.tmp 41) (by rfl) wo.heap.size (j * 3) #[.int .i64 k, .int .i64 n, .string s] (by rfl) (by rfl) TH.out size_V (one_V k n s) ?_; rw [HW.out])
          | fail)
        exact ⟨⟨j + 1, by omega, by go_num, HS'⟩, by simp [intOf]; omega⟩
      obtain rfl : j = L.length := by omega
      have TH : Hid (wr.there wo.heap.size (L.length * 3) 3) := hI.out.th hj HZi.out
      have HS := hI.out.mark HZi.out
      obtain ⟨W1, hW1⟩ : ∃ W1, Hid (wr.setCells wo.heap.size (L.length * 3) (#[.int .i64 77, .int .i64 0, .string ⟨#[]⟩] : Array Value).toList = W1) := hid_ex _
      have HS' : Hid (Full W1 wo.heap.size 26 (L.flatMap vc ++ vc mk77) ∧ Below wo.heap.size wo W1) := by rw [← hW1.out]; exact HS
      have HF := HSt.out W1 HS'.out.2 HS'.out.1
      obtain ⟨z, z0, z1⟩ := HOut.out W1 HS'.out.2
      have c1 := HCL.out W1 HS'.out.2
      have HF' : Hid (LsI _ _ _ _ _ _) := HF
      have p1 : ¬ (L.length : Int) < (L.length : Int) := by omega
      clear HS hI HS' HF hlt hj
      go_wp2_with (first
        | (refine wpList_store_mid (by rfl) 26 (.tmp 50) (.tmp 49) (by rfl) wo.heap.size (L.length * 3) #[.int .i64 77, .int .i64 0, .string ⟨#[]⟩] (by rfl) (by rfl) TH.out size_V (one_V 77 0 ⟨#[]⟩) ?_; rw [hW1.out])
        | fail)
      have := HLT.out
      exact ⟨⟨i + 1, by omega, by go_num, Gs ++ [wo.heap.size], HF'.out⟩, by simp [intOf]; omega⟩
end Go.Proofs.YtljhobjgofhldaaDoor
