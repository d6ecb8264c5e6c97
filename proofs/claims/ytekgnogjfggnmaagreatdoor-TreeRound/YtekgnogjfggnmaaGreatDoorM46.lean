import Derived.Deep.LoopGhost
import Derived.Test.YtekgnogjfggnmaaGreatDoorM45
import Derived.Test.YtekgnogjfggnmaaGreatDoorM43
import Derived.Test.YtekgnogjfggnmaaGreatDoorM36
namespace Go.Proofs.YtekgnogjfggnmaaGreatDoor
open Go.RowKit Go.Shelf

/-! readDump. -/

theorem line_no (l : List UInt8) (w : World) (T : TypeId) (p : Value) (h : RTab w T p) (hl : l.length ≤ 4194304) (hn : lineS l = none) : Calls Tryz.prog 35 #[.string (bk l)] w fun e w' => Out e T p ∧ Below w.heap.size w w' := by
  have := readLine_any (bk l) w T p h (by rw [bk_size]; exact hl)
  rw [bk_list, hn] at this
  exact this.mono fun e w' q => ⟨q.1.out, q.2⟩
theorem line_yes (l : List UInt8) (x : Nd) (d : Nat) (w : World) (T : TypeId) (p : Value) (h : RTab w T p) (hl : l.length ≤ 4194304) (hn : lineS l = some (x, d)) : Calls Tryz.prog 35 #[.string (bk l)] w fun e w' => e = .returned (.tuple #[.agg (ndV x), .int .i64 (d : Int)]) ∧ Below w.heap.size w w' := by
  have := readLine_any (bk l) w T p h (by rw [bk_size]; exact hl)
  rw [bk_list, hn] at this
  exact this.mono fun e w' q => ⟨q.1.out, q.2⟩
theorem cutC_no (l : List UInt8) (w : World) (hl : l.length ≤ 4194304) (m : Int) (hm : w.cell? ⟨4, 0, none⟩ = some (.int .i64 m)) (hn : cut10 l = none) : Calls Tryz.prog 34 #[.string (bk l), .string ⟨#[10]⟩] w fun e w' => e = .returned (.tuple #[.string (bk l), .string (bk []), .bool false]) ∧ Below w.heap.size w w' := by
  have := Tryz.strings_Cut (bk l) ⟨#[10]⟩ m w (by rw [bk_size]; omega) hm
  rw [bk_list, show (⟨#[10]⟩ : ByteArray).data.toList = [10] from rfl, cut_no hn] at this
  exact this.mono fun e w' q => ⟨q.1, by obtain ⟨n, rfl⟩ := q.2; exact belowN w n⟩
theorem cutC_yes (l a b : List UInt8) (w : World) (hl : l.length ≤ 4194304) (m : Int) (hm : w.cell? ⟨4, 0, none⟩ = some (.int .i64 m)) (hn : cut10 l = some (a, b)) : Calls Tryz.prog 34 #[.string (bk l), .string ⟨#[10]⟩] w fun e w' => e = .returned (.tuple #[.string (bk a), .string (bk b), .bool true]) ∧ Below w.heap.size w w' := by
  have := Tryz.strings_Cut (bk l) ⟨#[10]⟩ m w (by rw [bk_size]; omega) hm
  rw [bk_list, show (⟨#[10]⟩ : ByteArray).data.toList = [10] from rfl, cut_yes hn] at this
  exact this.mono fun e w' q => ⟨q.1, by obtain ⟨n, rfl⟩ := q.2; exact belowN w n⟩

/-- Numbers of nodes, as they lie. -/
def nv (l : List Nat) : List Value := iv (l.map fun (n : Nat) => (n : Int))
theorem flat_app (a b : List Nd) : flat (a ++ b) = flat a ++ flat b := List.flatMap_append
theorem flat_sing (x : Nd) : flat [x] = (ndV x).toList := by simp [flat]
/-- A node is appended: nothing else turns but rows of nodes. -/
theorem wpList_appN {w : World} {ops : Array Oper} {rest : List Oper} {o : Oper} {a : Act} {Q : Exit → Act → World → Prop} (hgd : o.guard = none) (s x : Operand)
    (ho : o.op = .call { callee := .builtin .append, args := #[s, x], argTypes := #[22, 22] })
    (base : Nat) (v : Value) (l : List Nd) (n : Nat) (hn : l.length = n) (y : Nd) (C : Array Value) (hC : C = ndV y) (hs : a.eval s = v) (hx : a.eval x = .slice (some ⟨w.heap.size, 0, none⟩) 1 1) (hown : Hid (w.ownsRow base 42 9 v n (flat l))) (h40 : n + 1 ≤ 1073741824) (hbase : base ≤ w.heap.size)
    (h : ∀ v' w', Hid (w'.ownsRow base 42 9 v' (n + 1) (flat (l ++ [y]))) → Hid (Below base w w' ∧ Lib.OthersKept 42 none w w') → wpList Tryz.prog ops Q rest (a.put o.dst v') w') : wpList Tryz.prog ops Q (o :: rest) a (w.alloc (.cells C 42)) := by
  subst hC
  obtain ⟨i0, hi, hz0, hz1, hz2⟩ := info_parts info36
  have ho2 := World.ownsRow.alloc hown.out (.cells (ndV y) 42)
  obtain ⟨v', w', hr, h2, h3, _⟩ := run_append_own (P := Tryz.prog) (w.alloc (.cells (ndV y) 42)) base 22 o.type 42 i0 _ 9 104 Tryz.underlying22 hi hz0 hz1 hz2 rfl (by decide) v n (flat l) ho2 ⟨w.heap.size, 0, none⟩ 1 1 (ndV y).toList rfl
    (World.news_of_block (heap_alloc_new w _)) (by
      intro u hu
      unfold ndV at hu
      simp only [List.mem_cons, List.not_mem_nil, or_false] at hu
      rcases hu with rfl | rfl | rfl | rfl | rfl | rfl | rfl | rfl | rfl <;> rfl) (by unfold maxLen; omega) (by omega) (by simp; omega)
  refine wpList_plain hgd fun K hK => ?_
  unfold Oper.wp execOp
  simp only [ho, resolve, invoke, builtin, Sem.run_bind, Sem.run_pure, Result.andThen_ok, List.map_toArray, List.map_cons, List.map_nil, hs, hx, hr]
  refine hK _ _ (h v' w' ?_ ?_)
  · show w'.ownsRow base 42 9 v' (n + 1) (flat (l ++ [y]))
    rw [flat_app, flat_sing]
    exact h2
  · exact ⟨((Below.refl base w).alloc hbase _).grown h3 (by simp; omega) (own_ge ho2), ((Lib.OthersKept.refl _ _ _).alloc _).grown h3 (Lib.ownsRow_kind ho2)⟩

/-- The block of a row of nodes is none of a row of numbers. -/
theorem rows_apart {w : World} {b : Nat} {g go : Nat} {n m c c' : Nat} {xs ys : List Value} (h : w.ownsRow b 42 9 (.slice (some ⟨g, 0, none⟩) n c) n xs) (k : w.ownsRow b 3 1 (.slice (some ⟨go, 0, none⟩) m c') m ys) : go ≠ g := by
  rintro rfl
  rcases h.2 with ⟨h0, _⟩ | ⟨g1, c1, cur1, hv1, _, hg1, _⟩
  · cases h0
  · rcases k.2 with ⟨h0, _⟩ | ⟨g2, c2, cur2, hv2, _, hg2, _⟩
    · cases h0
    · cases hv1
      cases hv2
      rw [hg1] at hg2
      cases hg2

set_option maxRecDepth 100000 in
theorem sl1 (go n cp d : Nat) (h : d ≤ n) (hc : n ≤ cp) : ∃ oo, (d < n → oo = d) ∧ ∀ wx : World, (Instr.slice 45 (.slice (some ⟨go, 0, none⟩) n cp) (some (.int .i64 (d : Int))) none none).run Tryz.prog wx = .ok (.slice (some ⟨go, oo, none⟩) (n - d) (cp - d)) wx := by
  have h0 : (0 : Int) ≤ (d : Int) := by omega
  have h1 : (d : Int) ≤ (n : Int) := by omega
  by_cases e : cp = d
  · refine ⟨0, fun q => by omega, fun wx => ?_⟩
    simp [go_sem, Tryz.underlying45, h0, h1, e]
  · refine ⟨d, fun _ => rfl, fun wx => ?_⟩
    simp [go_sem, Tryz.underlying45, h0, h1, e]
set_option maxRecDepth 100000 in
theorem sl2 (go n cp d : Nat) (h : d ≤ n) (hc : n ≤ cp) (wx : World) : (Instr.slice 45 (.slice (some ⟨go, 0, none⟩) n cp) none (some (.int .i64 (d : Int))) none).run Tryz.prog wx = .ok (.slice (some ⟨go, 0, none⟩) d cp) wx := by
  have h0 : (0 : Int) ≤ (d : Int) := by omega
  have h1 : (d : Int) ≤ (cp : Int) := by omega
  simp [go_sem, Tryz.underlying45, h0, h1]

theorem closeL_nil (L : List Nd) : closeL L [] = L := rfl
theorem grown_refl (w : World) (r : Option Nat) : w.grownBy w r := ⟨rfl, rfl, rfl, Nat.le_refl _, fun _ _ _ => rfl⟩
/-- closeNodes over the end of the stack. -/
theorem closeRow (w : World) (B : Nat) (v : Value) (L : List Nd) (O : List Nat) (q : Option Addr) (co : Nat) (ho : w.ownsRow B 42 9 v L.length (flat L)) (hlt : ∀ n ∈ O, n < L.length) (hL : L.length ≤ 4194304) (hO : O.length ≤ 4194304)
    (hq : O ≠ [] → ∃ go oo, q = some ⟨go, oo, none⟩ ∧ some go ≠ v.ownBlock ∧ ∀ j, j < O.length → w.cell? ⟨go, oo + j, none⟩ = some (.int .i64 ((O.getD j 0 : Nat) : Int))) :
    Calls Tryz.prog 36 #[v, .slice q O.length co] w fun e w' => e = .returned (.tuple #[]) ∧ w'.ownsRow B 42 9 v L.length (flat (closeL L O)) ∧ w.grownBy w' v.ownBlock := by
  by_cases hn : O = []
  · subst hn
    rcases ho.2 with ⟨rfl, h0⟩ | ⟨g, cap, cur, rfl, _⟩
    · refine (closeNodes_nil w none q 0 0 co).mono ?_
      rintro e w' ⟨rfl, rfl⟩
      exact ⟨rfl, ho, grown_refl _ _⟩
    · refine (closeNodes_nil w (some ⟨g, 0, none⟩) q L.length cap co).mono ?_
      rintro e w' ⟨rfl, rfl⟩
      exact ⟨rfl, ho, grown_refl _ _⟩
  · obtain ⟨go, oo, rfl, hne, hc⟩ := hq hn
    rcases ho.2 with ⟨rfl, h0⟩ | ⟨g, cap, cur, rfl, _⟩
    · exfalso
      cases O with
      | nil => exact hn rfl
      | cons a O => have := hlt a (List.mem_cons_self ..); omega
    · exact closeNodes_any w B g cap L O go oo co hc (fun e => hne (by rw [e]; rfl)) hlt ho (by omega) (by omega)
/-- What a row of one kind holds while another kind's is written. -/
theorem own_grown {w w' : World} {B : Nat} {v u : Value} {n m sz : Nat} {t : TypeId} {xs ys : List Value} (h : w.ownsRow B t sz u m ys) (hv : w.ownsRow B 42 9 v n xs) (ht : t ≠ 42) (hg : w.grownBy w' v.ownBlock) : w'.ownsRow B t sz u m ys := by
  refine ⟨h.1, ?_⟩
  rcases h.2 with hn | ⟨g, cap, cur, rfl, hb, hgg, rest⟩
  · exact .inl hn
  · refine .inr ⟨g, cap, cur, rfl, hb, ?_, rest⟩
    rw [hg.block g (Array.getElem?_eq_some_iff.1 hgg).1 ?_]
    · exact hgg
    · intro e
      rcases hv.2 with ⟨rfl, _⟩ | ⟨g2, c2, cur2, rfl, _, hg2, _⟩
      · cases e
      · cases e
        rw [hgg] at hg2
        cases hg2
        exact ht rfl

theorem own_take {w : World} {B : Nat} {p4 : Option Addr} {c4 n d : Nat} {O : List Nat} (h : w.ownsRow B 3 1 (.slice p4 n c4) n (nv O)) (hl : O.length = n) (hd : d ≤ n) : w.ownsRow B 3 1 (.slice p4 d c4) d (iv ((O.take d).map fun (n : Nat) => (n : Int))) := by
  rcases h.2 with ⟨h0, hn⟩ | ⟨g, cap, cur, hv, _⟩
  · cases h0
    obtain rfl : d = 0 := by omega
    obtain rfl : O = [] := List.length_eq_zero_iff.1 (by omega)
    exact h
  · cases hv
    refine ApI.own_head h hd ?_ ?_
    · unfold nv iv
      rw [List.map_take, List.map_take]
    · unfold iv
      rw [List.length_map, List.length_map, List.length_take]
      omega
theorem cell_blk {w : World} {N : Nat} {C : Array Value} {t : TypeId} (h : w.heap[N]? = some (.cells C t (0, 0))) (j : Nat) (u : Value) (hu : C[j]? = some u) : w.cell? ⟨N, j, none⟩ = some u := by
  simp only [World.cell?, h]
  simpa using hu
/-- What readDump answers. -/
def ReadPost (b : Nat) (T : TypeId) (p : Value) (R : Option (List Nd)) (e : Ending) (w' : World) : Prop :=
  match R with
  | none => Out e T p
  | some L => ∃ v, e = .returned v ∧ w'.ownsRow b 42 9 v L.length (flat L)

set_option maxRecDepth 100000 in
theorem readDump_big (s : ByteArray) (w : World) (T : TypeId) (p : Value) (h : NoD w T p) (hs : 4194304 < s.size) :
    Calls Tryz.prog 19 #[.string s] w fun e w' => Out e T p ∧ Below w.heap.size w w' := by
  have hn : w.cell? ⟨0, 0, none⟩ = some (.iface T p) := h
  have h1 : (4194304 : Int) < (s.size : Int) := by omega
  go_enter Tryz.func19, Tryz.ntmps19
  go_wp2
  exact ⟨rfl, (rfl : _ = _), Below.refl _ _⟩

set_option maxRecDepth 100000 in
set_option maxHeartbeats 8000000 in
theorem readDump_any (s : ByteArray) (w : World) (T : TypeId) (p : Value) (h : RTab w T p) (hk : KwAt w) (m : Int) (hm : w.cell? ⟨4, 0, none⟩ = some (.int .i64 m)) (hs : s.size ≤ 4194304) :
    Calls Tryz.prog 19 #[.string s] w fun e w' => Hid (ReadPost w.heap.size T p (readS s.data.toList) e w') ∧ Below w.heap.size w w' := by
  have hw15 := h.size
  have h1 : ¬ (4194304 : Int) < (s.size : Int) := by omega
  obtain ⟨t0, ht0⟩ : ∃ t0, s.data.toList = t0 := ⟨_, rfl⟩
  have hst : s = bk t0 := by rw [← ht0]; exact (bk_of s).symm
  have hz := Lib.size_eq s
  rw [ht0] at hz ⊢
  obtain ⟨R, hR⟩ : ∃ R, readS t0 = R := ⟨_, rfl⟩
  rw [hR]
  rw [← cont_start t0 (by omega)] at hR
  have HR0 : Hid (contS t0.length [] t0 = R) := hR
  have hl0 : t0.length ≤ 4194304 := by omega
  have HM : Hid (∀ w', Below w.heap.size w w' → w'.cell? ⟨4, 0, none⟩ = some (.int .i64 m)) := fun w' hb => (hb.cell (p := ⟨4, 0, none⟩) (by show 4 < w.heap.size; omega)).trans hm
  have HT : Hid (∀ w', Below w.heap.size w w' → RTab w' T p) := fun w' hb => h.next hb
  have HKW : Hid (∀ w', Below w.heap.size w w' → KwAt w') := fun w' hb => hk.next hb
  clear h hk hm hR ht0 hz
  subst hst
  have HC0 : Hid ((bk t0).size ≤ 4194304) := hs
  clear hs
  go_enter Tryz.func19, Tryz.ntmps19
  go_wp2
  go_loopg [0, 3, 4] (t0.length + 1) (fun g s0 s3 s4 wr => ∃ (t : List UInt8) (acc : List (Nd × Nat)), s0 = .string (bk t) ∧ t.length < g ∧ acc.length + t.length ≤ 4194304 ∧ Hid (∀ p ∈ acc, FineN p.1) ∧ Hid (DOk (dps acc)) ∧ Hid (contS (g - 1) acc t = R) ∧ Hid (wr.ownsRow w.heap.size 42 9 s3 acc.length (flat (half acc))) ∧ Hid (wr.ownsRow w.heap.size 3 1 s4 (stkA acc).length (nv (stkA acc))) ∧ Hid (Below w.heap.size w wr))
  case atStart =>
    exact ⟨t0, [], rfl, by omega, by simpa using hl0, fun p hp => by simp at hp, fun k hk => by simp [dps] at hk, HR0, World.ownsRow_nil _ _ _ _, World.ownsRow_nil _ _ _ _, Below.refl _ _⟩
  case round =>
    obtain ⟨t, acc, rfl, htg, hal, hF, hD, hx, ho3, ho4, hB⟩ := hrel
    clear HR0
    cases gk with
    | zero => omega
    | succ G =>
    rw [Nat.add_sub_cancel] at hx
    have hal2 : acc.length ≤ 4194304 := by omega
    have hsl := stkA_le acc
    cases t with
    | nil =>
      rw [cont_end _ _ hD.out] at hx
      obtain ⟨b0, hb0⟩ : ∃ b0, bk [] = b0 := ⟨_, rfl⟩
      have he : (bk []).toList.isEmpty = true := by rw [ByteArray.toList_eq, bk_list]; rfl
      rw [hb0] at he ⊢
      clear hb0
      have HME := half_end acc
      have hhl := half_len acc
      obtain ⟨p4, c4, hs4, _, hg4⟩ := own_row ho4.out
      have HC : Hid (Calls Tryz.prog 36 #[u3, u4] wr fun e w' => e = .returned (.tuple #[]) ∧ w'.ownsRow w.heap.size 42 9 u3 acc.length (flat (mkL acc)) ∧ wr.grownBy w' u3.ownBlock) := by
        rw [← HME, hs4]
        have := closeRow wr w.heap.size u3 (half acc) (stkA acc) p4 c4 (by rw [hhl]; exact ho3.out) (fun n hn => by rw [hhl]; exact stkA_lt hn) (by omega) (by omega) (fun hne => by
          obtain ⟨go, rfl, hc⟩ := hg4 (List.length_pos_iff.2 hne)
          refine ⟨go, 0, rfl, ?_, fun j hj => ?_⟩
          · intro e
            rcases ho3.out.2 with ⟨rfl, _⟩ | ⟨g, cap, cur, rfl, _⟩
            · cases e
            · cases e
              rw [hs4] at ho4
              exact rows_apart ho3.out ho4.out rfl
          · rw [Nat.zero_add]
            refine hc j _ ?_
            rw [List.getElem?_map, List.getElem?_eq_getElem hj, List.getD_eq_getElem?_getD, List.getElem?_eq_getElem hj]
            rfl)
        rw [hhl] at this
        exact this
      obtain ⟨L, hL⟩ : ∃ L, mkL acc = L := ⟨_, rfl⟩
      have hFL : Fine L := by rw [← hL]; exact mkL_fine hal2 hF.out
      have hLl : L.length = acc.length := by rw [← hL]; exact mkL_len acc
      rw [hL] at hx HC
      obtain ⟨p3, c3, hs3⟩ : ∃ p3 c3, u3 = .slice p3 acc.length c3 := by
        rcases ho3.out.2 with ⟨rfl, hn⟩ | ⟨g, cap, cur, hv, _⟩
        · exact ⟨none, 0, by rw [hn]⟩
        · exact ⟨_, cap, hv⟩
      have HB2 : Hid (∀ w', wr.grownBy w' u3.ownBlock → Below w.heap.size w w') := fun w' hg => hB.out.grown hg hB.out.size (own_ge ho3.out)
      have HI : Hid (∀ w', Below w.heap.size w w' → w'.ownsRow w.heap.size 42 9 u3 acc.length (flat L) → Calls Tryz.prog 16 #[u3] w' fun e w'' => e = .returned (.bool (treeS nameS typeS L)) ∧ Below w'.heap.size w' w'') := fun w' hb ho => by
        rw [hs3]
        have := isTree_any w' p3 c3 L hFL (fun hne => by
          rw [hs3] at ho
          rcases ho.2 with ⟨h0, hn⟩ | ⟨g, cap, cur, hv, _⟩
          · exact absurd (List.length_eq_zero_iff.1 (hLl.trans hn)) hne
          · cases hv
            rw [← hLl] at ho
            exact ⟨g, 0, rfl, (lay_of_own ho).2.1⟩) (HKW.out w' hb)
        rw [hLl] at this
        exact this
      have HLL : Hid (L.length = acc.length) := hLl
      clear hLl hL HME hhl hs3 hs4 hg4 hFL ho3 ho4 hF hD
      cases htr : treeS nameS typeS L with
      | true =>
        rw [htr, if_pos rfl] at hx
        rw [htr] at HI
        clear htr
        go_wp2_with (first
          | (go_at_call 36; refine HC.out.mono ?_; rintro e w2 ⟨rfl, ho2, hg2⟩; have b2 := HB2.out w2 hg2)
          | (go_at_call 16; refine (HI.out _ b2 ho2).mono ?_; rintro e w3 ⟨rfl, hb3⟩)
          | go_in)
        go_ret
        refine ⟨?_, b2.trans (hb3.mono b2.size)⟩
        rw [← hx.out]
        refine ⟨_, rfl, ?_⟩
        rw [HLL.out]
        exact own_stays ho2 hb3
      | false =>
        rw [htr, if_neg (by simp)] at hx
        rw [htr] at HI
        clear htr
        go_wp2_with (first
          | (go_at_call 36; refine HC.out.mono ?_; rintro e w2 ⟨rfl, ho2, hg2⟩; have b2 := HB2.out w2 hg2)
          | (go_at_call 16; refine (HI.out _ b2 ho2).mono ?_; rintro e w3 ⟨rfl, hb3⟩; have b3 := b2.trans (hb3.mono b2.size); have hn3 : w3.cell? ⟨0, 0, none⟩ = some (.iface T p) := (HT.out _ b3).n)
          | go_in)
        refine ⟨rfl, ?_, b3⟩
        rw [← hx.out]
        exact (rfl : _ = _)
    | cons c t =>
      have he : (bk (c :: t)).toList.isEmpty = false := by rw [ByteArray.toList_eq, bk_list]; rfl
      obtain ⟨G, rfl⟩ : ∃ K, G = K + 1 := ⟨G - 1, by rw [List.length_cons] at htg; omega⟩
      have hml := HM.out wr hB.out
      cases hcut : cut10 (c :: t) with
      | none =>
        rw [cont_nocut _ _ _ _ hcut] at hx
        have HC : Hid (Calls Tryz.prog 34 #[.string (bk (c :: t)), .string ⟨#[10]⟩] wr fun e w' => e = .returned (.tuple #[.string (bk (c :: t)), .string (bk []), .bool false]) ∧ Below wr.heap.size wr w') := cutC_no (c :: t) wr (by omega) m hml hcut
        generalize bk (c :: t) = bs at he HC ⊢
        clear hcut hml
        go_wp2_with (first
          | (go_at_call 34; refine HC.out.mono ?_; rintro e w2 ⟨rfl, hb2⟩; have b2 := hB.out.trans (hb2.mono hB.out.size); have hn2 : w2.cell? ⟨0, 0, none⟩ = some (.iface T p) := (HT.out _ b2).n)
          | go_in)
        refine ⟨rfl, ?_, b2⟩
        rw [← hx.out]
        exact (rfl : _ = _)
      | some q =>
        obtain ⟨a, b⟩ := q
        have hcl := cut_len hcut
        have HC : Hid (Calls Tryz.prog 34 #[.string (bk (c :: t)), .string ⟨#[10]⟩] wr fun e w' => e = .returned (.tuple #[.string (bk a), .string (bk b), .bool true]) ∧ Below wr.heap.size wr w') := cutC_yes (c :: t) a b wr (by omega) m hml hcut
        cases hline : lineS a with
        | none =>
          rw [cont_noline _ _ _ _ _ _ hcut hline] at hx
          have HL : Hid (∀ w', Below w.heap.size w w' → Calls Tryz.prog 35 #[.string (bk a)] w' fun e w'' => Out e T p ∧ Below w'.heap.size w' w'') := fun w' hb => line_no a w' T p (HT.out w' hb) (by omega) hline
          generalize bk (c :: t) = bs at he HC ⊢
          clear hcut hml hline
          go_wp2_with (first
            | (go_at_call 34; refine HC.out.mono ?_; rintro e w2 ⟨rfl, hb2⟩; have b2 := hB.out.trans (hb2.mono hB.out.size))
            | (go_at_call 35; refine (HL.out _ b2).mono ?_; rintro e w3 ⟨hee, hb3⟩; obtain rfl : e = _ := hee)
            | go_in)
          refine ⟨rfl, ?_, b2.trans (hb3.mono b2.size)⟩
          rw [← hx.out]
          exact (rfl : _ = _)
        | some q =>
          obtain ⟨x, d⟩ := q
          have hxs := (line_sound hline).2
          have hxf := line_fine (by omega) hline
          have HL0 : Hid (∀ w', Below w.heap.size w w' → Calls Tryz.prog 35 #[.string (bk a)] w' fun e w'' => e = .returned (.tuple #[.agg (ndV x), .int .i64 (d : Int)]) ∧ Below w'.heap.size w' w'') := fun w' hb => line_yes a x d w' T p (HT.out w' hb) (by omega) hline
          by_cases hdeep : (stkA acc).length < d
          · rw [cont_deep _ _ _ _ _ _ _ _ hcut hline hdeep] at hx
            obtain ⟨p4, c4, hs4, _, _⟩ := own_row ho4.out
            have hdI : (((stkA acc).length : Nat) : Int) < (d : Int) := by omega
            obtain ⟨kd, ps, nm, lb, ty, op, it, tx, zz⟩ := x
            unfold ndV at HL0
            simp only at HL0
            generalize bk (c :: t) = bs at he HC ⊢
            clear hcut hml hline hxs hxf
            subst hs4
            clear ho4
            generalize (stkA acc).length = ns at hdI hsl hdeep ⊢
            go_wp2_with (first
              | (go_at_call 34; refine HC.out.mono ?_; rintro e w2 ⟨rfl, hb2⟩; have b2 := hB.out.trans (hb2.mono hB.out.size))
              | (go_at_call 35; refine (HL0.out _ b2).mono ?_; rintro e w3 ⟨rfl, hb3⟩; have b3 := b2.trans (hb3.mono b2.size); have b4 : Below w.heap.size w (w3.alloc (.cells #[.int .i64 kd, .int .i64 ps, .string nm, .string lb, .string ty, .int .i64 op, .int .i64 it, .string tx, .int .i64 zz] 42)) := b3.alloc b3.size _; have hn3 : (w3.alloc (.cells #[.int .i64 kd, .int .i64 ps, .string nm, .string lb, .string ty, .int .i64 op, .int .i64 it, .string tx, .int .i64 zz] 42)).cell? ⟨0, 0, none⟩ = some (.iface T p) := (HT.out _ b4).n)
              | go_in)
            refine ⟨rfl, ?_, b4⟩
            rw [← hx.out]
            exact (rfl : _ = _)
          · rw [cont_next _ _ _ _ _ _ _ _ hcut hline] at hx
            have hdl : d ≤ (stkA acc).length := by omega
            have HD2 : Hid (DOk (dps (acc ++ [(x, d)]))) := dok_next hD.out x hdl
            have HF2 : Hid (∀ p ∈ acc ++ [(x, d)], FineN p.1) := fun p hp => (List.mem_append.1 hp).elim (hF.out p) (fun h => by rw [List.mem_singleton.1 h]; exact hxf)
            have HN3 : Hid (closeL (half acc) ((stkA acc).drop d) ++ [x] = half (acc ++ [(x, d)])) := half_next acc x d hxs
            have HN4 : Hid (stkA (acc ++ [(x, d)]) = (stkA acc).take d ++ [acc.length]) := stkA_next acc x d
            have HX : Hid (contS G (acc ++ [(x, d)]) b = R) := hx
            have HLT : Hid (∀ n ∈ (stkA acc).drop d, n < (half acc).length) := fun n hn => by rw [half_len]; exact stkA_lt (List.mem_of_mem_drop hn)
            have HHL : Hid ((half acc).length = acc.length) := half_len acc
            clear hx hD hF
            obtain ⟨p4, c4, hs4, hnc4, hg4⟩ := own_row ho4.out
            obtain ⟨p3, c3, hs3⟩ : ∃ p3 c3, u3 = .slice p3 acc.length c3 := by
              rcases ho3.out.2 with ⟨rfl, hn⟩ | ⟨g, cap, cur, hv, _⟩
              · exact ⟨none, 0, by rw [hn]⟩
              · exact ⟨_, cap, hv⟩
            subst hs4 hs3
            obtain ⟨O, hO⟩ : ∃ O, stkA acc = O := ⟨_, rfl⟩
            rw [hO] at ho4 hnc4 hg4 hdl HN3 HN4 HLT hsl hdeep ⊢
            obtain ⟨n, hn⟩ : ∃ n, O.length = n := ⟨_, rfl⟩
            rw [hn] at ho4 hnc4 hg4 hdl hsl hdeep ⊢
            have HOn : Hid (O.length = n) := hn
            clear hO hn
            obtain ⟨qo, co, hSLa, hqo⟩ : ∃ (qo : Option Addr) (co : Nat), (∀ wx : World, (Instr.slice 45 (.slice p4 n c4) (some (.int .i64 (d : Int))) none none).run Tryz.prog wx = .ok (.slice qo (n - d) co) wx) ∧ (d < n → ∃ go, p4 = some ⟨go, 0, none⟩ ∧ qo = some ⟨go, d, none⟩) := by
              rcases ho4.out.2 with ⟨h0, h1⟩ | ⟨g, cap, cur, hv, _⟩
              · cases h0
                obtain rfl : d = 0 := by omega
                exact ⟨none, 0, fun wx => by simp [go_sem, Tryz.underlying45], fun h => by omega⟩
              · cases hv
                obtain ⟨oo, h1, h2⟩ := sl1 g n c4 d hdl hnc4
                exact ⟨_, _, h2, fun h => ⟨g, rfl, by rw [h1 h]⟩⟩
            have hSLb : ∀ wx : World, (Instr.slice 45 (.slice p4 n c4) none (some (.int .i64 (d : Int))) none).run Tryz.prog wx = .ok (.slice p4 d c4) wx := by
              rcases ho4.out.2 with ⟨h0, h1⟩ | ⟨g, cap, cur, hv, _⟩
              · cases h0
                obtain rfl : d = 0 := by omega
                exact fun wx => by simp [go_sem, Tryz.underlying45]
              · cases hv
                exact sl2 g n c4 d hdl hnc4
            have hdI : ¬ ((n : Nat) : Int) < (d : Int) := by omega
            have HCR : Hid (∀ w', w'.ownsRow w.heap.size 42 9 (.slice p3 acc.length c3) acc.length (flat (half acc)) → w'.ownsRow w.heap.size 3 1 (.slice p4 n c4) n (nv O) → Calls Tryz.prog 36 #[.slice p3 acc.length c3, .slice qo (n - d) co] w' fun e w'' => e = .returned (.tuple #[]) ∧ w''.ownsRow w.heap.size 42 9 (.slice p3 acc.length c3) acc.length (flat (closeL (half acc) (O.drop d))) ∧ w'.grownBy w'' (Value.slice p3 acc.length c3).ownBlock) := fun w' h3 h4 => by
              have hln : (O.drop d).length = n - d := by rw [List.length_drop, HOn.out]
              have := closeRow w' w.heap.size (.slice p3 acc.length c3) (half acc) (O.drop d) qo co (by rw [HHL.out]; exact h3) HLT.out (by rw [HHL.out]; exact hal2) (by omega) (fun hne => by
                have hdn : d < n := by have := List.length_pos_iff.2 hne; omega
                obtain ⟨go, rfl, rfl⟩ := hqo hdn
                refine ⟨go, d, rfl, ?_, fun j hj => ?_⟩
                · intro e
                  rcases h3.2 with ⟨h0, _⟩ | ⟨g, cap, cur, hv, _⟩
                  · injection h0 with h00 _ _
                    subst h00
                    cases e
                  · cases hv
                    cases e
                    exact rows_apart h3 h4 rfl
                · obtain ⟨_, _, hvv, _, hg⟩ := own_row h4
                  cases hvv
                  obtain ⟨g2, hg2, hc⟩ := hg (by omega)
                  cases hg2
                  refine hc (d + j) _ ?_
                  rw [List.getElem?_map, List.getD_eq_getElem?_getD, List.getElem?_drop, List.getElem?_eq_getElem (by rw [hln] at hj; have := HOn.out; omega)]
                  rfl)
              rw [hln, HHL.out] at this
              exact this
            obtain ⟨kd, ps, nm, lb, ty, op, it, tx, zz⟩ := x
            unfold ndV at HL0
            simp only at HL0
            generalize bk (c :: t) = bs at he HC ⊢
            clear hcut hml hline hxs hxf hg4 hqo
            go_upto_region 12 with (first
              | (go_at_call 34; refine HC.out.mono ?_; rintro e w2 ⟨rfl, hb2⟩; have b2 := hB.out.trans (hb2.mono hB.out.size))
              | (go_at_call 35; refine (HL0.out _ b2).mono ?_; rintro e w3 ⟨rfl, hb3⟩)
              | go_in)
            obtain ⟨N, hN⟩ : ∃ N, w3.heap.size = N := ⟨_, rfl⟩
            obtain ⟨wN, hwN⟩ : ∃ wN, w3.alloc (.cells #[.int .i64 kd, .int .i64 ps, .string nm, .string lb, .string ty, .int .i64 op, .int .i64 it, .string tx, .int .i64 zz] 42) = wN := ⟨_, rfl⟩
            have B23 : Below wr.heap.size wr w3 := hb2.trans (hb3.mono hb2.size)
            have BrN : Below wr.heap.size wr wN := by rw [← hwN]; exact B23.alloc B23.size _
            have bN : Hid (Below w.heap.size w wN) := hB.out.trans (BrN.mono hB.out.size)
            have o3N : Hid (wN.ownsRow w.heap.size 42 9 (.slice p3 acc.length c3) acc.length (flat (half acc))) := own_stays ho3.out BrN
            have o4N : Hid (wN.ownsRow w.heap.size 3 1 (.slice p4 n c4) n (nv O)) := own_stays ho4.out BrN
            have bxN : Hid (wN.heap[N]? = some (.cells #[.int .i64 kd, .int .i64 ps, .string nm, .string lb, .string ty, .int .i64 op, .int .i64 it, .string tx, .int .i64 zz] 42 (0, 0))) := by rw [← hwN, ← hN]; exact heap_alloc_new _ _
            have hNe : Hid (some N ≠ (Value.slice p3 acc.length c3).ownBlock) := fun e => by
              have := Lx.own_lt ho3.out N e.symm
              have := B23.size
              omega
            have zN : Hid (N < wN.heap.size) := by rw [← hwN, ← hN]; show _ < _; simp
            have HC36 : Hid (Calls Tryz.prog 36 #[.slice p3 acc.length c3, .slice qo (n - d) co] wN fun e w'' => e = .returned (.tuple #[]) ∧ w''.ownsRow w.heap.size 42 9 (.slice p3 acc.length c3) acc.length (flat (closeL (half acc) (O.drop d))) ∧ wN.grownBy w'' (Value.slice p3 acc.length c3).ownBlock) := HCR.out wN o3N.out o4N.out
            rw [hwN, hN]
            clear hwN B23 BrN hb2 hb3 b2 ho3 ho4 HCR HC HL0 hN
            have hge3 : Hid (∀ k, (Value.slice p3 acc.length c3).ownBlock = some k → w.heap.size ≤ k) := own_ge o3N.out
            go_upto_region 13 with (first
              | (go_at_call 36; refine HC36.out.mono ?_; rintro e w4 ⟨rfl, o34, g4⟩)
              | go_in)
            have b4 : Hid (Below w.heap.size w w4) := bN.out.grown g4 bN.out.size hge3.out
            have o44 : Hid (w4.ownsRow w.heap.size 3 1 (.slice p4 n c4) n (nv O)) := own_grown o4N.out o3N.out (by decide) g4
            have bx4 : Hid (w4.heap[N]? = some (.cells #[.int .i64 kd, .int .i64 ps, .string nm, .string lb, .string ty, .int .i64 op, .int .i64 it, .string tx, .int .i64 zz] 42 (0, 0))) := (g4.block N zN.out hNe.out).trans bxN.out
            have o4t : Hid (w4.ownsRow w.heap.size 3 1 (.slice p4 d c4) d (iv ((O.take d).map fun (n : Nat) => (n : Int)))) := own_take o44.out HOn.out hdl
            have HTD : ((O.take d).map fun (n : Nat) => (n : Int)).length = d := by rw [List.length_map, List.length_take, HOn.out]; omega
            have O34 : Hid (w4.ownsRow w.heap.size 42 9 (.slice p3 acc.length c3) acc.length (flat (closeL (half acc) (O.drop d)))) := o34
            clear o34 g4 o4N o3N bxN bN hNe zN HC36 hge3 o44
            have hz4 := b4.out.size
            go_upto_region 14 with (first
              | (at_builtin; refine wpList_appZ (by rfl) _ _ (by rfl) w.heap.size _ ((O.take d).map fun (n : Nat) => (n : Int)) d HTD ((acc.length : Nat) : Int) (by rfl) (by rfl) o4t (by omega) hz4 ?_; intro v5 w5 ho5 hk5)
              | go_in)
            have b5 : Hid (Below w.heap.size w w5) := b4.out.trans hk5.out.1
            have o35 : Hid (w5.ownsRow w.heap.size 42 9 (.slice p3 acc.length c3) acc.length (flat (closeL (half acc) (O.drop d)))) := own_other hk5.out.2 O34.out (by decide)
            have bx5 : w5.heap[N]? = some (.cells #[.int .i64 kd, .int .i64 ps, .string nm, .string lb, .string ty, .int .i64 op, .int .i64 it, .string tx, .int .i64 zz] 42 (0, 0)) := hk5.out.2 N _ bx4.out (by simp) (fun c' fz' q => by injection q with _ q2 _; exact absurd q2 (by decide))
            have n0 : w5.cell? ⟨N, 0, none⟩ = some (.int .i64 kd) := cell_blk bx5 0 _ rfl
            have n1 : w5.cell? ⟨N, 1, none⟩ = some (.int .i64 ps) := cell_blk bx5 1 _ rfl
            have n2 : w5.cell? ⟨N, 2, none⟩ = some (.string nm) := cell_blk bx5 2 _ rfl
            have n3 : w5.cell? ⟨N, 3, none⟩ = some (.string lb) := cell_blk bx5 3 _ rfl
            have n4 : w5.cell? ⟨N, 4, none⟩ = some (.string ty) := cell_blk bx5 4 _ rfl
            have n5 : w5.cell? ⟨N, 5, none⟩ = some (.int .i64 op) := cell_blk bx5 5 _ rfl
            have n6 : w5.cell? ⟨N, 6, none⟩ = some (.int .i64 it) := cell_blk bx5 6 _ rfl
            have n7 : w5.cell? ⟨N, 7, none⟩ = some (.string tx) := cell_blk bx5 7 _ rfl
            have n8 : w5.cell? ⟨N, 8, none⟩ = some (.int .i64 zz) := cell_blk bx5 8 _ rfl
            clear bx5 bx4 O34 hk5 o4t b4
            have hz5 := b5.out.size
            have hcl2 : (closeL (half acc) (O.drop d)).length = acc.length := by rw [closeL_len, HHL.out]
            go_wp2_with (first
              | (at_builtin; refine wpList_appN (by rfl) _ _ (by rfl) w.heap.size _ (closeL (half acc) (O.drop d)) acc.length hcl2 ⟨kd, ps, nm, lb, ty, op, it, tx, zz⟩ _ (by rfl) (by rfl) (by rfl) o35 (by omega) hz5 ?_; intro v6 w6 ho6 hk6)
              | go_in)
            go_roundg (G + 1)
            case measure => omega
            case rel =>
              refine ⟨b, acc ++ [(⟨kd, ps, nm, lb, ty, op, it, tx, zz⟩, d)], rfl, ?_, ?_, HF2, HD2, ?_, ?_, ?_, b5.out.trans hk6.out.1⟩
              · rw [List.length_cons] at htg hcl; omega
              · rw [List.length_append, List.length_singleton]; rw [List.length_cons] at hal hcl; omega
              · rw [Nat.add_sub_cancel]; exact HX
              · rw [List.length_append, ← HN3.out]; exact ho6
              · show w6.ownsRow _ _ _ _ _ _
                have h5 := own_other hk6.out.2 ho5.out (by decide)
                rw [HN4.out, List.length_append, List.length_take, HOn.out, Nat.min_eq_left hdl]
                unfold nv
                rw [List.map_append]
                exact h5
end Go.Proofs.YtekgnogjfggnmaaGreatDoor
