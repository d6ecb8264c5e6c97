import Derived.Test.YtcjnejdemfemfaaGreatDoorCXb
namespace Go.Proofs.YtcjnejdemfemfaaGreatDoor
open Go.RowKit

/-! What is printed is read back. -/
theorem itoa_plain (v : Int) : plainB (Lib.itoa v) = true := by
  obtain ⟨h1, h2⟩ := itoa_chars v
  unfold plainB
  simp only [Bool.and_eq_true, List.all_eq_true, bne_iff_ne, ne_eq, Bool.not_eq_true']
  refine ⟨by cases h : Lib.itoa v with | nil => exact absurd h h1 | cons _ _ => rfl, fun c hc => ?_⟩
  have := h2 c hc
  refine ⟨?_, fun e => ?_, fun e => ?_⟩
  · unfold isSep
    simp only [Bool.or_eq_false_iff, beq_eq_false_iff_ne, ne_eq]
    refine ⟨⟨fun e => ?_, fun e => ?_⟩, fun e => ?_⟩ <;> rw [e] at this <;> simp at this
  · rw [e] at this; simp at this
  · rw [e] at this; simp at this
theorem sh_i64 : ∀ o : Fin 13, -9223372036854775808 ≤ shLo.getD o.val 0 ∧ shHi.getD o.val 0 ≤ 9223372036854775807 := by decide
theorem may_lohi {o : Nat} {n : Int} (h : mayS o n = true) : shLo.getD o 0 ≤ n ∧ n ≤ shHi.getD o 0 := by
  unfold mayS at h
  simp only [Bool.and_eq_true, decide_eq_true_eq] at h
  exact ⟨h.1, h.2.1⟩
theorem tab_all : ∀ o : Fin 13, tabO o.val = true → (0 ≤ shLo.getD o.val 0 ∧ shHi.getD o.val 0 < 20) ∧ ∀ k : Fin 20, mayS o.val (k.val : Int) = true → readO o.val (opW o.val (k.val : Int)) = some (k.val : Int) ∧ plainB (opW o.val (k.val : Int)) = true := by decide +kernel
theorem opW_num {o : Nat} (h : tabO o = false) (n : Int) : opW o n = Lib.itoa n := by
  unfold tabO at h
  simp only [Bool.or_eq_false_iff, beq_eq_false_iff_ne, ne_eq] at h
  unfold opW
  rw [if_neg h.1.1.1, if_neg (by rintro (q | q); exact h.1.1.2 q; exact h.1.2 q), if_neg h.2]
theorem readO_ok {o : Nat} {n : Int} (ho : o < 13) (h : mayS o n = true) : readO o (opW o n) = some n ∧ plainB (opW o n) = true := by
  have hr := may_lohi h
  have hi := sh_i64 ⟨o, ho⟩
  simp only at hi
  by_cases ht : tabO o = true
  · obtain ⟨h1, h2⟩ := tab_all ⟨o, ho⟩ ht
    simp only at h1 h2
    have h3 := h2 ⟨n.toNat, by omega⟩
    simp only at h3
    rw [show ((n.toNat : Nat) : Int) = n by omega] at h3
    exact h3 h
  · have ht' : tabO o = false := by simpa using ht
    rw [opW_num ht']
    refine ⟨?_, itoa_plain n⟩
    unfold readO
    rw [if_neg ht, num_ok (by omega) (by omega)]
    simp only
    rw [if_pos h]
theorem wd_all : ∀ k : Fin 24, seekI (wdT.getD k.val e0).data.toList 24 0 = some k.val ∧ plainB (wdT.getD k.val e0).data.toList = true ∧ (wdT.getD k.val e0).data.toList ≠ [112, 111, 111, 108] ∧ (wdT.getD k.val e0).data.toList ≠ [102, 110] := by decide +kernel
theorem ty_all : ∀ k : Fin 20, sortS (k.val : Int) = true → rdSort (tyW (k.val : Int)) = (k.val : Int) ∧ plainB (tyW (k.val : Int)) = true ∧ tyW (k.val : Int) ≠ [45] := by decide +kernel
theorem ty_ok {n : Int} (h : sortS n = true) : rdSort (tyW n) = n ∧ plainB (tyW n) = true ∧ tyW n ≠ [45] := by
  have hr := sort_rng h
  have h3 := ty_all ⟨n.toNat, by omega⟩
  simp only at h3
  rw [show ((n.toNat : Nat) : Int) = n by omega] at h3
  exact h3 h
theorem may_zero {n : Int} (h : mayS 0 n = true) : n = 0 := by
  have h1 : (0 : Int) ≤ n := (may_lohi h).1
  have h2 : n ≤ (0 : Int) := (may_lohi h).2
  omega
/-- An operand's words are none or one. -/
def oW (o : Nat) (n : Int) : List Bs := if o = 0 then [] else [opW o n]
theorem nextO_ok {o : Nat} {n : Int} (ho : o < 13) (h : mayS o n = true) (r : List Bs) : nextO o (oW o n ++ r) = some (n, r) := by
  unfold nextO oW
  by_cases hz : o = 0
  · rw [if_pos hz, if_pos hz, List.nil_append]
    rw [hz] at h
    rw [may_zero h]
  · rw [if_neg hz, if_neg hz, List.singleton_append]
    simp only
    rw [(readO_ok ho h).1]
theorem oW_wd {o : Nat} {n : Int} (ho : o < 13) (h : mayS o n = true) : (∀ w ∈ oW o n, Wd w) ∧ (oW o n).length ≤ 1 := by
  unfold oW
  split
  · exact ⟨(fun w hw => by cases hw), by simp⟩
  · exact ⟨fun w hw => by rw [List.mem_singleton.1 hw]; exact plain_wd (readO_ok ho h).2, by simp⟩
theorem insW_eq (x : In) : insW x = (wdT.getD x.1.toNat e0).data.toList :: (oW (opA.getD x.1.toNat 0) x.2.1 ++ oW (opB.getD x.1.toNat 0) x.2.2) := rfl
structure InsOk (x : In) : Prop where
  o0 : 0 ≤ x.1
  o1 : x.1 < 24
  ma : mayS (opA.getD x.1.toNat 0) x.2.1 = true
  mb : mayS (opB.getD x.1.toNat 0) x.2.2 = true
theorem ins_ok {x : In} (h : insS x = true) : InsOk x := by
  unfold insS at h
  simp only [Bool.and_eq_true, decide_eq_true_eq] at h
  exact ⟨h.1, h.2.1, h.2.2.1, h.2.2.2⟩
theorem rdIns_back {x : In} (h : insS x = true) : rdIns (insW x) = some x := by
  have k := ins_ok h
  have hx := wd_all ⟨x.1.toNat, by have := k.o0; have := k.o1; omega⟩
  simp only at hx
  rw [insW_eq]
  unfold rdIns
  rw [show wAt ((wdT.getD x.1.toNat e0).data.toList :: (oW (opA.getD x.1.toNat 0) x.2.1 ++ oW (opB.getD x.1.toNat 0) x.2.2)) 0 = (wdT.getD x.1.toNat e0).data.toList from rfl, hx.1]
  simp only [List.drop_succ_cons, List.drop_zero]
  rw [nextO_ok (opA_lt _) k.ma]
  simp only
  have e := nextO_ok (opB_lt x.1.toNat) k.mb []
  rw [List.append_nil] at e
  rw [e]
  simp only
  rw [if_pos trivial]
  obtain ⟨a, b, c⟩ := x
  have := k.o0
  simp only at this ⊢
  rw [Int.toNat_of_nonneg this]
theorem insW_wd {x : In} (h : insS x = true) : (∀ w ∈ insW x, Wd w) ∧ (insW x).length ≤ 255 ∧ insW x ≠ [] ∧ wAt (insW x) 0 ≠ [112, 111, 111, 108] ∧ wAt (insW x) 0 ≠ [102, 110] := by
  have k := ins_ok h
  have hx := wd_all ⟨x.1.toNat, by have := k.o0; have := k.o1; omega⟩
  simp only at hx
  obtain ⟨a1, a2⟩ := oW_wd (opA_lt x.1.toNat) k.ma
  obtain ⟨b1, b2⟩ := oW_wd (opB_lt x.1.toNat) k.mb
  rw [insW_eq]
  refine ⟨fun w hw => ?_, ?_, by simp, hx.2.2.1, hx.2.2.2⟩
  · rcases List.mem_cons.1 hw with rfl | hw
    · exact plain_wd hx.2.1
    · rcases List.mem_append.1 hw with hw | hw
      · exact a1 w hw
      · exact b1 w hw
  · simp only [List.length_cons, List.length_append]
    omega
theorem nm_plain : ∀ c : Fin 256, nmB (UInt8.ofNat c.val) = true → isSep (UInt8.ofNat c.val) = false ∧ UInt8.ofNat c.val ≠ 34 ∧ UInt8.ofNat c.val ≠ 10 := by decide +kernel
theorem nm_ch {c : UInt8} (h : nmB c = true) : isSep c = false ∧ c ≠ 34 ∧ c ≠ 10 := by
  have := nm_plain ⟨c.toNat, c.toNat_lt⟩
  simp only [UInt8.ofNat_toNat] at this
  exact this h
theorem name_plain {l : Bs} (h : nameS l = true) : plainB l = true := by
  cases l with
  | nil => cases h
  | cons c r =>
    simp only [nameS, Bool.and_eq_true, List.all_eq_true] at h
    unfold plainB
    simp only [Bool.and_eq_true, List.all_eq_true, bne_iff_ne, ne_eq, Bool.not_eq_true']
    exact ⟨rfl, fun d hd => nm_ch (h.2.2 d hd)⟩
theorem rs_ok {n : Int} (h : n = 0 ∨ sortS n = true) : plainB (if n = 0 then [45] else tyW n) = true ∧ (¬ ((if n = 0 then [45] else tyW n) ≠ ([45] : Bs) ∧ rdSort (if n = 0 then [45] else tyW n) = 0)) ∧ (if (if n = 0 then [45] else tyW n) = ([45] : Bs) then 0 else rdSort (if n = 0 then [45] else tyW n)) = n := by
  by_cases hz : n = 0
  · rw [if_pos hz]
    exact ⟨rfl, fun q => q.1 rfl, by rw [if_pos rfl]; exact hz.symm⟩
  · rw [if_neg hz]
    have hs : sortS n = true := by rcases h with q | q; exact absurd q hz; exact q
    obtain ⟨h1, h2, h3⟩ := ty_ok hs
    exact ⟨h2, fun q => hz (h1.symm.trans q.2), by rw [if_neg h3, h1]⟩
theorem entW_wd {e : En} (h : EntOk e) : (∀ w ∈ entW e, Wd w) ∧ (entW e).length ≤ 255 ∧ entW e ≠ [] ∧ wAt (entW e) 0 = [102, 110] := by
  unfold entW
  refine ⟨fun w hw => ?_, ?_, by simp, rfl⟩
  · rcases List.mem_append.1 hw with hw | hw
    · simp only [List.mem_cons, List.not_mem_nil, or_false] at hw
      rcases hw with rfl | rfl | rfl | rfl
      · exact plain_wd (by decide)
      · exact plain_wd (name_plain h.nm)
      · exact plain_wd (itoa_plain _)
      · exact plain_wd (rs_ok h.rs).1
    · obtain ⟨n, hn, rfl⟩ := List.mem_map.1 hw
      exact plain_wd (ty_ok (h.ss n hn)).2.1
  · have := h.sl
    simp only [List.length_append, List.length_map, List.length_cons, List.length_nil]
    omega
theorem rdEnt_back {e : En} (h : EntOk e) : rdEnt (entW e) = some { e with start := 0 } := by
  have hp : mayS 12 e.params = true := by
    unfold mayS
    simp only [Bool.and_eq_true, decide_eq_true_eq]
    exact ⟨h.p0, h.p8, rfl⟩
  have hr := (readO_ok (o := 12) (by decide) hp).1
  rw [opW_num rfl] at hr
  obtain ⟨-, r1, r2⟩ := rs_ok h.rs
  have hs : (e.sorts.map tyW).map rdSort = e.sorts := by
    rw [List.map_map]
    conv => rhs; rw [← List.map_id e.sorts]
    exact List.map_congr_left fun n hn => (ty_ok (h.ss n hn)).1
  unfold rdEnt
  rw [if_neg (by unfold entW; simp only [List.length_append, List.length_cons]; omega)]
  rw [show wAt (entW e) 2 = Lib.itoa e.params from rfl, show wAt (entW e) 3 = (if e.result = 0 then [45] else tyW e.result) from rfl, show wAt (entW e) 1 = e.name.data.toList from rfl, show (entW e).drop 4 = e.sorts.map tyW from rfl, hr]
  simp only
  rw [if_neg r1, hs, bk_all, r2]
  have : entS { e with start := 0 } = true := ent_ok.2 ⟨h.nm, h.sl, h.p0, h.p8, h.pl, h.rs, h.ss⟩
  rw [if_pos this]

/-! The lines. -/
theorem asm_line {f n : Nat} {s s' : St} {a r : Bs} (h : ∀ c ∈ a, c ≠ 10) (e : stepS s a = some s') : asmF (f + 1) n s (a ++ 10 :: r) = asmF f (n + 1) s' r := by
  rw [asmF, if_neg (by simp), (line_of h).1, (line_of h).2, e]
theorem step_words {s : St} {ws : List Bs} (hw : ∀ w ∈ ws, Wd w) (hk : ws.length ≤ 255) (hn : ws ≠ []) : stepS s (joinW ws) = takeS s ws := by
  unfold stepS
  rw [wds_join hw hk, if_neg hn]
theorem step_words2 {s : St} {ws : List Bs} (hw : ∀ w ∈ ws, Wd w) (hk : ws.length ≤ 255) (hn : ws ≠ []) : stepS s ([32, 32] ++ joinW ws) = takeS s ws := by
  unfold stepS
  rw [wds_join2 hw hk, if_neg hn]
theorem ln_app (ws : List Bs) (r : Bs) : lnS ws ++ r = joinW ws ++ 10 :: r := by unfold lnS; rw [List.append_assoc, List.singleton_append]
theorem main_step {m : Int} (h0 : 0 ≤ m) (h1 : m ≤ 59) (f n : Nat) (r : Bs) : asmF (f + 1) n st0 (mainW m ++ r) = asmF f (n + 1) ⟨⟨[], [], [], m⟩, true⟩ r := by
  have hm : mayS 8 m = true := by
    unfold mayS
    simp only [Bool.and_eq_true, decide_eq_true_eq]
    exact ⟨h0, h1, rfl⟩
  have hr := (readO_ok (o := 8) (by decide) hm).1
  rw [opW_num rfl] at hr
  have hw : ∀ w ∈ ([[109, 97, 105, 110], Lib.itoa m] : List Bs), Wd w := fun w hw => by
    simp only [List.mem_cons, List.not_mem_nil, or_false] at hw
    rcases hw with rfl | rfl
    · exact plain_wd (by decide)
    · exact plain_wd (itoa_plain _)
  unfold mainW
  rw [ln_app]
  refine asm_line (join_nl hw) ?_
  rw [step_words hw (by simp) (by simp)]
  unfold takeS
  rw [if_pos (show st0.begun = false from rfl)]
  unfold takeMain
  rw [if_pos ⟨rfl, rfl⟩, show wAt [[109, 97, 105, 110], Lib.itoa m] 1 = Lib.itoa m from rfl, hr]
  rfl
theorem pool_step {t : ByteArray} (ht : t.size ≤ 200) (f n : Nat) (r : Bs) (c : Cd) (hc : c.ens = []) (hl : c.txs.length < 4000) : asmF (f + 1) n ⟨c, true⟩ (poolW t ++ r) = asmF f (n + 1) ⟨{ c with txs := c.txs ++ [t] }, true⟩ r := by
  have hw : ∀ w ∈ ([[112, 111, 111, 108], qtS t.data.toList] : List Bs), Wd w := fun w hw => by
    simp only [List.mem_cons, List.not_mem_nil, or_false] at hw
    rcases hw with rfl | rfl
    · exact plain_wd (by decide)
    · exact quote_wd _
  unfold poolW
  rw [ln_app]
  refine asm_line (join_nl hw) ?_
  rw [step_words hw (by simp) (by simp)]
  unfold takeS
  rw [if_neg (by simp), if_pos (show wAt [[112, 111, 111, 108], qtS t.data.toList] 0 = [112, 111, 111, 108] from rfl)]
  unfold takePool
  rw [if_pos ⟨rfl, by rw [hc]; rfl, by simp only; omega⟩, show wAt [[112, 111, 111, 108], qtS t.data.toList] 1 = qtS t.data.toList from rfl, qd_ok (by rw [Array.length_toList]; exact ht)]
  simp only [Option.map_some]
  rw [bk_all]
theorem pools_step : ∀ (L : List ByteArray) (f n : Nat) (r : Bs) (c : Cd), (∀ t ∈ L, t.size ≤ 200) → c.ens = [] → c.txs.length + L.length ≤ 4000 → ∃ n', asmF (f + L.length) n ⟨c, true⟩ (L.flatMap poolW ++ r) = asmF f n' ⟨{ c with txs := c.txs ++ L }, true⟩ r
  | [], f, n, r, c, _, _, _ => ⟨n, by simp⟩
  | t :: L, f, n, r, c, ht, hc, hl => by
    rw [List.length_cons] at hl
    obtain ⟨n', e⟩ := pools_step L f (n + 1) r { c with txs := c.txs ++ [t] } (fun x hx => ht x (List.mem_cons_of_mem _ hx)) hc (by simp only [List.length_append, List.length_singleton]; omega)
    refine ⟨n', ?_⟩
    rw [List.flatMap_cons, List.append_assoc, List.length_cons, ← Nat.add_assoc, pool_step (ht t (by simp)) _ _ _ _ hc (by omega), e]
    simp only [List.append_assoc, List.singleton_append]
theorem ent_step {e : En} (he : EntOk e) (f n : Nat) (r : Bs) (c : Cd) (h1 : c.ens.length < 60) (h2 : c.ins.length < 60000) (hb : bareS c = false) (hs : e.start = (c.ins.length : Int)) : asmF (f + 1) n ⟨c, true⟩ (lnS (entW e) ++ r) = asmF f (n + 1) ⟨{ c with ens := c.ens ++ [e] }, true⟩ r := by
  obtain ⟨w1, w2, w3, w4⟩ := entW_wd he
  rw [ln_app]
  refine asm_line (join_nl w1) ?_
  rw [step_words w1 w2 w3]
  unfold takeS
  rw [if_neg (by simp), w4, if_neg (by decide), if_pos rfl]
  unfold takeEnt
  rw [if_pos ⟨by simp only; omega, by simp only; omega, hb⟩, rdEnt_back he]
  simp only [Option.map_some]
  rw [← hs]
theorem ins_step {x : In} (hx : insS x = true) (f n : Nat) (r : Bs) (c : Cd) (h1 : c.ens.length ≠ 0) (h2 : c.ins.length < 60000) : asmF (f + 1) n ⟨c, true⟩ ([32, 32] ++ (lnS (insW x) ++ r)) = asmF f (n + 1) ⟨{ c with ins := c.ins ++ [x] }, true⟩ r := by
  obtain ⟨w1, w2, w3, w4, w5⟩ := insW_wd hx
  rw [ln_app, ← List.append_assoc]
  refine asm_line (fun c hc => ?_) ?_
  · rcases List.mem_append.1 hc with hc | hc
    · intro q
      rw [q] at hc
      simp at hc
    · exact join_nl w1 c hc
  rw [step_words2 w1 w2 w3]
  unfold takeS
  rw [if_neg (by simp), if_neg w4, if_neg w5]
  unfold takeIns
  rw [if_pos ⟨h1, by simp only; omega⟩, rdIns_back hx]
  rfl
end Go.Proofs.YtcjnejdemfemfaaGreatDoor
namespace Go.Proofs.YtcjnejdemfemfaaGreatDoor
open Go.RowKit

/-! A code's text is that code. -/
def cutC (c : Cd) (k n : Nat) : Cd := ⟨c.ins.take n, c.ens.take k, c.txs, c.main⟩
theorem enAt_take {L : List En} {i k : Nat} (h : i < k) : enAt (L.take k) i = enAt L i := by
  unfold enAt
  rw [List.getD_eq_getElem?_getD, List.getD_eq_getElem?_getD, List.getElem?_take, if_pos h]
theorem enAt_get {L : List En} {i : Nat} (h : i < L.length) : enAt L i = L[i] := by
  unfold enAt
  rw [List.getD_eq_getElem?_getD, List.getElem?_eq_getElem h]
  rfl
theorem ent_mem {L : List En} {i : Nat} (h : i < L.length) : enAt L i ∈ L := by rw [enAt_get h]; exact List.getElem_mem h
theorem ens_snoc {L : List En} {k : Nat} (h : k < L.length) : L.take k ++ [enAt L k] = L.take (k + 1) := by
  rw [enAt_get h, List.take_succ_eq_append_getElem h]
theorem lnS_pos (ws : List Bs) : 0 < (lnS ws).length := by unfold lnS; simp
theorem body_step {c : Cd} (hv : CodeOk c) : ∀ (m n k f ln : Nat), n + m = c.ins.length → k ≤ c.ens.length → (∀ i, i < k → (enAt c.ens i).start < (n : Int)) → (k < c.ens.length → (n : Int) ≤ (enAt c.ens k).start) → (bodyS c.ens k n (c.ins.drop n)).length < f → asmF f ln ⟨cutC c k n, true⟩ (bodyS c.ens k n (c.ins.drop n)) = .inl ⟨c, true⟩
  | 0, n, k, f, ln, hn, hk, _, h2, _ => by
    have hs := st_get hv.st
    have hkl : k = c.ens.length := by
      by_cases q : k < c.ens.length
      · have a := h2 q
        have b := (hs.2 k q).1
        omega
      · omega
    have e1 : cutC c k n = c := by
      unfold cutC
      rw [hkl, show n = c.ins.length by omega, List.take_length, List.take_length]
    rw [List.drop_eq_nil_of_le (by omega), e1]
    cases f <;> rfl
  | m + 1, n, k, f, ln, hn, hk, h1, h2, hf => by
    have hs := st_get hv.st
    have hnl : n < c.ins.length := by omega
    have hi := hv.il
    have he := hv.el
    have hin : insS c.ins[n] = true := hv.is _ (List.getElem_mem hnl)
    rw [List.drop_eq_getElem_cons hnl] at hf ⊢
    rw [bodyS] at hf ⊢
    have etk : c.ins.take n ++ [c.ins[n]] = c.ins.take (n + 1) := by rw [List.take_succ_eq_append_getElem hnl]
    have hli : (c.ins.take n).length = n := by rw [List.length_take]; omega
    have hle : (c.ens.take k).length = k := by rw [List.length_take]; omega
    have hlp := lnS_pos (insW c.ins[n])
    by_cases ha : atE c.ens k n = true
    · rw [if_pos ha] at hf
      rw [if_pos ha, if_pos ha] at ⊢
      rw [if_pos ha] at hf
      simp only [List.length_append, List.length_cons] at hf
      have hla := lnS_pos (entW (enAt c.ens k))
      obtain ⟨g, rfl⟩ : ∃ g, f = g + 1 + 1 := ⟨f - 2, by omega⟩
      unfold atE at ha
      simp only [Bool.and_eq_true, decide_eq_true_eq, beq_iff_eq] at ha
      have hb : bareS (cutC c k n) = false := by
        unfold bareS cutC
        simp only
        rw [hle, hli]
        by_cases h0 : 0 < k
        · rw [enAt_take (by omega)]
          have := h1 (k - 1) (by omega)
          rw [show ((enAt c.ens (k - 1)).start == (n : Int)) = false by rw [beq_eq_false_iff_ne]; omega, Bool.and_false]
        · rw [decide_eq_false h0]; rfl
      rw [ent_step (ent_ok.1 (hv.es _ (ent_mem ha.1))) _ _ _ _ (by unfold cutC; rw [hle]; omega) (by unfold cutC; rw [hli]; omega) hb (by unfold cutC; rw [hli]; exact ha.2)]
      rw [ins_step hin _ _ _ _ (by unfold cutC; simp) (by unfold cutC; rw [hli]; omega)]
      have e2 : (⟨(cutC c k n).ins ++ [c.ins[n]], (cutC c k n).ens ++ [enAt c.ens k], (cutC c k n).txs, (cutC c k n).main⟩ : Cd) = cutC c (k + 1) (n + 1) := by
        unfold cutC
        rw [etk, ens_snoc ha.1]
      simp only
      rw [e2]
      refine body_step hv m (n + 1) (k + 1) g _ (by omega) (by omega) (fun i hi => ?_) (fun q => ?_) (by omega)
      · by_cases hc : i < k
        · have := h1 i hc; omega
        · rw [show i = k by omega]; omega
      · have := (hs.2 (k + 1) q).2 (by omega)
        rw [Nat.add_sub_cancel] at this
        omega
    · rw [if_neg ha, if_neg ha, List.nil_append] at hf ⊢
      simp only [List.length_append, List.length_cons, List.length_nil] at hf
      obtain ⟨g, rfl⟩ : ∃ g, f = g + 1 := ⟨f - 1, by omega⟩
      have hne : k < c.ens.length → (enAt c.ens k).start ≠ (n : Int) := fun q e => ha (by
        unfold atE
        rw [decide_eq_true q, e]
        simp)
      have hk0 : k ≠ 0 := by
        rintro rfl
        have hl : 0 < c.ens.length := by have := hv.m0; have := hv.ml; omega
        have a := h2 hl
        have b := hne hl
        have d := hs.1
        omega
      rw [ins_step hin _ _ _ _ (by unfold cutC; rw [hle]; exact hk0) (by unfold cutC; rw [hli]; omega)]
      have e2 : (⟨(cutC c k n).ins ++ [c.ins[n]], (cutC c k n).ens, (cutC c k n).txs, (cutC c k n).main⟩ : Cd) = cutC c k (n + 1) := by
        unfold cutC
        rw [etk]
      rw [e2]
      refine body_step hv m (n + 1) k g _ (by omega) hk (fun i hi => ?_) (fun q => ?_) (by omega)
      · have := h1 i hi; omega
      · have a := h2 q
        have b := hne q
        omega
theorem pools_ge : ∀ L : List ByteArray, L.length ≤ (L.flatMap poolW).length
  | [] => by simp
  | t :: L => by
    have := pools_ge L
    have h : 0 < (poolW t).length := lnS_pos _
    rw [List.flatMap_cons, List.length_append, List.length_cons]
    omega
theorem asm_print {c : Cd} (h : validS c = 0) : asmS (printS c) = .inl c := by
  have hv := code_ok.1 h
  have hs := st_get hv.st
  have hl : 0 < c.ens.length := by have := hv.m0; have := hv.ml; omega
  have hel := hv.el
  have hml := hv.ml
  have hlen : (printS c).length = (mainW c.main).length + ((c.txs.flatMap poolW).length + (bodyS c.ens 0 0 c.ins).length) := by unfold printS; rw [List.length_append, List.length_append]
  have h1 : 0 < (mainW c.main).length := lnS_pos _
  have h2 := pools_ge c.txs
  have hF : asmF ((printS c).length + 1) 1 st0 (printS c) = .inl ⟨c, true⟩ := by
    obtain ⟨g, hg⟩ : ∃ g, (printS c).length = g + c.txs.length := ⟨(printS c).length - c.txs.length, by omega⟩
    rw [hg]
    unfold printS
    rw [main_step hv.m0 (by omega)]
    obtain ⟨n', e⟩ := pools_step c.txs g (1 + 1) (bodyS c.ens 0 0 c.ins) ⟨[], [], [], c.main⟩ hv.ts rfl (by simpa using hv.tl)
    rw [e]
    have := body_step hv c.ins.length 0 0 g n' (by omega) (by omega) (fun i hi => absurd hi (Nat.not_lt_zero _)) (fun _ => by have := hs.1; omega) (by rw [List.drop_zero]; omega)
    rw [List.drop_zero] at this
    exact this
  unfold asmS
  rw [hF]
  simp only
  have hb : bareS c = false := by
    unfold bareS
    have := (hs.2 (c.ens.length - 1) (by omega)).1
    rw [show ((enAt c.ens (c.ens.length - 1)).start == (c.ins.length : Int)) = false by rw [beq_eq_false_iff_ne]; omega, Bool.and_false]
  have hk : lackS ⟨c, true⟩ = false := by
    unfold lackS
    rw [hb, decide_eq_false (by simp only; omega)]
    rfl
  rw [hk]
  rfl
end Go.Proofs.YtcjnejdemfemfaaGreatDoor

