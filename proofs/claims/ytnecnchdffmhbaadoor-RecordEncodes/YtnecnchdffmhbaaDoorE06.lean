import Derived.Test.YtnecnchdffmhbaaDoorO20
namespace Go.Proofs.YtnecnchdffmhbaaDoor
open Go.RowKit

/-- A name stands among those of some events. -/
theorem nsA_mem : ∀ (l : List Ev) (ns : List (List UInt8)) (x : List UInt8), x ≠ [] → (x ∈ nsA ns l ↔ x ∈ ns ∨ ∃ e ∈ l, e.nm = x)
  | [], ns, x, _ => by simp [nsA]
  | e :: l, ns, x, hx => by
    have h := nsA_mem l (nmN ns e.nm) x hx
    have h2 : x ∈ nmN ns e.nm ↔ x ∈ ns ∨ e.nm = x := by
      unfold nmN
      split
      · rename_i h0
        constructor
        · exact .inl
        · rintro (h1 | h1)
          · exact h1
          · exact absurd (h1 ▸ h0) hx
      · split
        · rename_i h0
          constructor
          · exact .inl
          · rintro (h1 | h1)
            · exact h1
            · exact h1 ▸ h0
        · rw [List.mem_append, List.mem_singleton]
          exact or_congr Iff.rfl eq_comm
    show x ∈ nsA (nmN ns e.nm) l ↔ _
    rw [h, h2, or_assoc]
    simp
theorem nsA_take (L : List Ev) (i : Nat) (e : Ev) (h : L[i]? = some e) : nsA [] (L.take (i + 1)) = nmN (nsA [] (L.take i)) e.nm := by
  rw [List.take_add_one, h]
  exact nsA_app _ _ _
/-- The place of a name when one more is laid. -/
theorem plc_next (ns : List (List UInt8)) (x y : List UInt8) (hy : y ∉ ns) : plc (ns ++ [y]) x = if y = x then (ns ++ [y]).length else plc ns x := by
  unfold plc
  by_cases h : y = x
  · subst h
    rw [if_pos (show y ∈ ns ++ [y] by simp), if_pos rfl, List.idxOf_append, if_neg hy]
    simp
  · rw [if_neg h]
    by_cases hx : x ∈ ns
    · rw [if_pos (show x ∈ ns ++ [y] by simp [hx]), if_pos hx, List.idxOf_append, if_pos hx]
    · have : x ∉ ns ++ [y] := by
        rw [List.mem_append, List.mem_singleton]
        rintro (h1 | h1)
        · exact hx h1
        · exact h h1.symm
      rw [if_neg this, if_neg hx]
theorem ev_at2 {w : World} {B g o : Nat} {L : List Ev} (h : Row w B (some ⟨g, o, none⟩) L.length (L.flatMap ec)) (i : Nat) (e : Ev) (he : L[i]? = some e) (j : Nat) (v : Value) (hv : (ec e)[j]? = some v) : w.cell? ⟨g, o + i * 6 + j, none⟩ = some v := by
  obtain ⟨g', o', hq, -, hr⟩ := ev_at h i e he
  injection hq with hq
  injection hq with h1 h2
  rw [h1, h2]
  exact hr j v hv
set_option maxRecDepth 100000 in
set_option maxHeartbeats 2000000 in
theorem rnamed_any (W : World) (q : Option Addr) (cap : Nat) (L : List Ev) (m : Nat) (x : ByteArray) (hR : Row W W.heap.size q L.length (L.flatMap ec)) (hn : L.length ≤ 140737488355328) (hm : m ≤ L.length) :
    Calls Tryd.prog 80 #[.slice q L.length cap, .int .i64 (m : Int), .string x] W fun e w' => e = .returned (.tuple #[.int .i64 (plc (nsA [] (L.take m)) x.data.toList : Int), .int .i64 ((nsA [] (L.take m)).length : Int)]) ∧ Below W.heap.size W w' := by
  obtain ⟨n, hln⟩ : ∃ n, L.length = n := ⟨_, rfl⟩
  have HN : Hid (L.length = n) := hln
  have H0 : Hid (Row W W.heap.size q L.length (L.flatMap ec) ∧ Below W.heap.size W W) := ⟨hR, Below.refl _ _⟩
  rw [hln] at hn hm ⊢
  have qm : (m : Int) ≤ (n : Int) := by omega
  have qn : (n : Int) ≤ 140737488355328 := by omega
  clear hR hln
  go_enter Tryd.func80, Tryd.ntmps80
  go_wp2_with fail
  go_loopw [8, 9, 10] (fun c p v wr => ∃ j cn pl : Nat, v = .int .i64 (j : Int) ∧ c = .int .i64 (cn : Int) ∧ p = .int .i64 (pl : Int) ∧ j ≤ m ∧ cn ≤ j ∧ pl ≤ j ∧ Hid (cn = (nsA [] (L.take j)).length ∧ pl = plc (nsA [] (L.take j)) x.data.toList ∧ Row wr W.heap.size q L.length (L.flatMap ec) ∧ Below W.heap.size W wr)) (fun _ _ v _ => m - (intOf v).toNat)
  case atStart => exact ⟨0, 0, 0, rfl, rfl, rfl, Nat.zero_le _, Nat.le_refl _, Nat.le_refl _, rfl, rfl, H0.out.1, H0.out.2⟩
  case round =>
    obtain ⟨j, cn, pl, rfl, rfl, rfl, hj, hcn, hpl, HI⟩ := hrel
    clear H0
    by_cases hlt : j < m
    case neg =>
      obtain rfl : j = m := by omega
      have qi : ¬ (j : Int) < (j : Int) := by omega
      have HV : Hid (plc (nsA [] (L.take j)) x.data.toList = pl ∧ (nsA [] (L.take j)).length = cn ∧ Below W.heap.size W wr) := ⟨HI.out.2.1.symm, HI.out.1.symm, HI.out.2.2.2⟩
      clear HI hlt
      go_wp2
      go_ret2
      rw [HV.out.1, HV.out.2.1]
      exact ⟨rfl, HV.out.2.2⟩
    case pos =>
      have qj : (j : Int) < (m : Int) := by omega
      have qjn : (j : Int) < (n : Int) := by omega
      have q0 : (0 : Int) ≤ (j : Int) := by omega
      obtain ⟨e, he⟩ : ∃ e, L[j]? = some e := ⟨L[j]'(by have := HN.out; omega), List.getElem?_eq_getElem _⟩
      obtain ⟨g, o, rfl, hgB, hr⟩ := ev_at HI.out.2.2.1 j e he
      have y2 := hr 2 _ rfl
      obtain ⟨yb, hyb⟩ : ∃ b : ByteArray, b.data.toList = e.nm := ⟨⟨e.nm.toArray⟩, rfl⟩
      rw [sV_at hyb] at y2
      have HE : Hid (L[j]? = some e ∧ yb.data.toList = e.nm) := ⟨he, hyb⟩
      obtain ⟨b0, hb0⟩ : ∃ b0, yb.toList.isEmpty = b0 := ⟨_, rfl⟩
      have HB0 : Hid ((b0 = true ↔ (e.nm = [] ∨ ∃ d ∈ L.take 0, d.nm = e.nm))) := by
        show b0 = true ↔ _
        rw [← hb0, toL, hyb, List.isEmpty_iff]
        simp
      have HK : Hid (Row wr W.heap.size (some ⟨g, o, none⟩) L.length (L.flatMap ec) ∧ Below W.heap.size W wr) := HI.out.2.2
      have HC : Hid (cn = (nsA [] (L.take j)).length ∧ pl = plc (nsA [] (L.take j)) x.data.toList) := ⟨HI.out.1, HI.out.2.1⟩
      clear hr he hyb hgB HI
      go_wp2_with fail
      clear y2
      go_loopw [11, 12] (fun b v wr => ∃ (k : Nat) (t : Bool), v = .int .i64 (k : Int) ∧ b = .bool t ∧ k ≤ j ∧ Hid ((t = true ↔ (e.nm = [] ∨ ∃ d ∈ L.take k, d.nm = e.nm)) ∧ Row wr W.heap.size (some ⟨g, o, none⟩) L.length (L.flatMap ec) ∧ Below W.heap.size W wr)) (fun _ v _ => j - (intOf v).toNat)
      case atStart => exact ⟨0, b0, rfl, rfl, Nat.zero_le _, HB0.out, HK.out.1, HK.out.2⟩
      case round =>
        obtain ⟨k, t, rfl, rfl, hk, HJ⟩ := hrel
        clear HK HB0 hb0
        have y2 := ev_at2 HJ.out.2.1 j e HE.out.1 2 _ rfl
        rw [sV_at HE.out.2] at y2
        by_cases hkj : k < j
        · have qk : (k : Int) < (j : Int) := by omega
          have qk0 : (0 : Int) ≤ (k : Int) := by omega
          have qkn : (k : Int) < (n : Int) := by omega
          obtain ⟨d, hd⟩ : ∃ d, L[k]? = some d := ⟨L[k]'(by have := HN.out; omega), List.getElem?_eq_getElem _⟩
          have x2 := ev_at2 HJ.out.2.1 k d hd 2 _ rfl
          obtain ⟨xb, hxb⟩ : ∃ b : ByteArray, b.data.toList = d.nm := ⟨⟨d.nm.toArray⟩, rfl⟩
          rw [sV_at hxb] at x2
          have HD : Hid (Row wr.drew W.heap.size (some ⟨g, o, none⟩) L.length (L.flatMap ec) ∧ Below W.heap.size W wr.drew) := by
            have nb : Below wr.heap.size wr wr.drew := (Below.refl _ wr).drew
            exact ⟨HJ.out.2.1.below nb HJ.out.2.2.size, HJ.out.2.2.trans (nb.mono HJ.out.2.2.size)⟩
          have hstep : (∃ c ∈ L.take (k + 1), c.nm = e.nm) ↔ (∃ c ∈ L.take k, c.nm = e.nm) ∨ d.nm = e.nm := by
            rw [List.take_add_one, hd]
            simp
          by_cases hq : d.nm = e.nm
          · have qe : (xb.toList == yb.toList) = true := by rw [toL, toL, hxb, HE.out.2, hq]; exact beq_self_eq_true _
            have HJ2 : Hid ((true = true ↔ (e.nm = [] ∨ ∃ c ∈ L.take (k + 1), c.nm = e.nm))) := by
              show true = true ↔ _
              rw [hstep]
              exact ⟨fun _ => .inr (.inr hq), fun _ => rfl⟩
            clear hd hxb hstep HJ hq
            go_upto_region 10 with fail
            go_region
            all_goals
              clear x2 y2
              go_wp2
              exact ⟨⟨k + 1, true, by go_num, rfl, by omega, HJ2.out, HD.out.1, HD.out.2⟩, by simp [intOf]; omega⟩
          · have qe : (xb.toList == yb.toList) = false := by rw [toL, toL, hxb, HE.out.2, beq_eq_false_iff_ne]; exact hq
            have HJ2 : Hid ((t = true ↔ (e.nm = [] ∨ ∃ c ∈ L.take (k + 1), c.nm = e.nm))) := by
              show t = true ↔ _
              rw [HJ.out.1, hstep]
              exact or_congr Iff.rfl ⟨.inl, fun h => h.resolve_right hq⟩
            clear hd hxb hstep HJ hq
            go_upto_region 10 with fail
            go_region
            all_goals
              clear x2 y2
              go_wp2
              exact ⟨⟨k + 1, t, by go_num, rfl, by omega, HJ2.out, HD.out.1, HD.out.2⟩, by simp [intOf]; omega⟩
        · obtain rfl : k = j := by omega
          have qk : ¬ (k : Int) < (k : Int) := by omega
          have hnx := nsA_take L k e HE.out.1
          have hmem := nsA_mem (L.take k) [] e.nm
          cases t with
          | true =>
            have HV : Hid (cn = (nsA [] (L.take (k + 1))).length ∧ pl = plc (nsA [] (L.take (k + 1))) x.data.toList) := by
              have h1 := HJ.out.1.1 rfl
              have h2 : nsA [] (L.take (k + 1)) = nsA [] (L.take k) := by
                rw [hnx]
                unfold nmN
                split
                · rfl
                · rename_i h0
                  rw [if_pos]
                  exact (hmem h0).2 (.inr (h1.resolve_left h0))
              rw [h2]
              exact HC.out
            have HW : Hid (Row wr W.heap.size (some ⟨g, o, none⟩) L.length (L.flatMap ec) ∧ Below W.heap.size W wr) := HJ.out.2
            clear hnx hmem HJ HC
            go_wp2
            exact ⟨⟨k + 1, cn, pl, by go_num, rfl, rfl, by omega, by omega, by omega, HV.out.1, HV.out.2, HW.out⟩, by simp [intOf]; omega⟩
          | false =>
            have hf : ¬ (e.nm = [] ∨ ∃ d ∈ L.take k, d.nm = e.nm) := by
              intro h
              exact absurd (HJ.out.1.2 h) (by decide)
            have hne : e.nm ≠ [] := fun h => hf (.inl h)
            have hni : e.nm ∉ nsA [] (L.take k) := fun h => by
              rcases (hmem hne).1 h with h | h
              · simp at h
              · exact hf (.inr h)
            have h2 : nsA [] (L.take (k + 1)) = nsA [] (L.take k) ++ [e.nm] := by
              rw [hnx]
              unfold nmN
              rw [if_neg hne, if_neg hni]
            have h3 := plc_next (nsA [] (L.take k)) x.data.toList e.nm hni
            rw [← h2] at h3
            have h4 : (nsA [] (L.take (k + 1))).length = cn + 1 := by rw [h2, List.length_append, HC.out.1]; rfl
            rw [h4, ← HC.out.2] at h3
            have HW : Hid (Row wr W.heap.size (some ⟨g, o, none⟩) L.length (L.flatMap ec) ∧ Below W.heap.size W wr) := HJ.out.2
            by_cases hx : e.nm = x.data.toList
            · have qe : (yb.toList == x.toList) = true := by rw [toL, toL, HE.out.2, hx]; exact beq_self_eq_true _
              rw [if_pos hx] at h3
              have HV : Hid (cn + 1 = (nsA [] (L.take (k + 1))).length ∧ cn + 1 = plc (nsA [] (L.take (k + 1))) x.data.toList) := ⟨h4.symm, h3.symm⟩
              clear hnx hmem HJ HC hf hne hni h2 h3 h4 hx
              go_wp2
              exact ⟨⟨k + 1, cn + 1, cn + 1, by go_num, by go_num, by go_num, by omega, by omega, by omega, HV.out.1, HV.out.2, HW.out⟩, by simp [intOf]; omega⟩
            · have qe : (yb.toList == x.toList) = false := by rw [toL, toL, HE.out.2, beq_eq_false_iff_ne]; exact hx
              rw [if_neg hx] at h3
              have HV : Hid (cn + 1 = (nsA [] (L.take (k + 1))).length ∧ pl = plc (nsA [] (L.take (k + 1))) x.data.toList) := ⟨h4.symm, h3.symm⟩
              clear hnx hmem HJ HC hf hne hni h2 h3 h4 hx
              go_wp2
              exact ⟨⟨k + 1, cn + 1, pl, by go_num, by go_num, rfl, by omega, by omega, by omega, HV.out.1, HV.out.2, HW.out⟩, by simp [intOf]; omega⟩
end Go.Proofs.YtnecnchdffmhbaaDoor
