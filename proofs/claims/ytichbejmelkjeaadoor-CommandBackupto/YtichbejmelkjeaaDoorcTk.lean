import Derived.Test.YtichbejmelkjeaaDoorcWb
import Derived.Test.YtichbejmelkjeaaDoorcLf
import Derived.Test.YtichbejmelkjeaaDoorEMb
import Derived.Deep.LoopGhost
namespace Go.Proofs.YtichbejmelkjeaaDoor
open Go.RowKit

def sV (l : List UInt8) : Value := .string ⟨l.toArray⟩
theorem sV_at {x : ByteArray} {l : List UInt8} (h : x.data.toList = l) : sV l = .string x := by
  unfold sV; rw [← h]
theorem info_S : (Tryd.prog.info? 9).map (fun i => (i.zero, i.size, i.bytes)) = some (some (.string ⟨#[]⟩), 1, 16) := by kernel_rfl
theorem ret_parts {w : World} {B : Nat} {a b : Value} {tm : Array Value} (hf : Full w B 59 [a, b]) (h2 : tm[2]?.getD undef = .pointer (some ⟨B, 0, none⟩)) :
    (results Tryd.f17 tm).run Tryd.prog w = .ok (.agg #[a, b]) w := by
  have c0 := (hf.cell 0 _ rfl).1
  have c1 := (hf.cell 1 _ rfl).1
  simp [results, Tryd.results17, go_sem, h2, c0, c1]

theorem tkn_end (g : Nat) (ws : List (List UInt8)) : tkn (g + 1) ws [] = (ws, []) := rfl
theorem tkn_stop (g : Nat) (ws : List (List UInt8)) (r : List UInt8) (h : r ≠ []) (hc : ((ws ++ [wrd r]).length = 1 ∧ tks (knd (wrd r)) = 6) ∨ ((ws ++ [wrd r]).length = 3 ∧ wrd r = ifw)) : tkn (g + 1) ws r = (ws ++ [wrd r], nxt r) := by
  unfold tkn; rw [if_neg h, if_pos hc]
theorem tkn_go (g : Nat) (ws : List (List UInt8)) (r : List UInt8) (h : r ≠ []) (hc : ¬ (((ws ++ [wrd r]).length = 1 ∧ tks (knd (wrd r)) = 6) ∨ ((ws ++ [wrd r]).length = 3 ∧ wrd r = ifw))) : tkn (g + 1) ws r = tkn g (ws ++ [wrd r]) (nxt r) := by
  conv => lhs; unfold tkn
  rw [if_neg h, if_neg hc]

/-- Where taken stands: the words so far. -/
structure TkI (w wr : World) (ws : List (List UInt8)) (v : Value) : Prop where
  own : wr.ownsRow (w.heap.size + 2) 9 1 v ws.length (ws.map sV)
  fp : Full wr (w.heap.size + 1) 59 [v, .string ⟨#[]⟩]
  fq : Full wr w.heap.size 59 [.slice none 0 0, .string ⟨#[]⟩]
  b : Below w.heap.size w wr
  z : w.heap.size + 2 ≤ wr.heap.size
theorem TkI.next {w wr w' : World} {ws : List (List UInt8)} {v : Value} (h : TkI w wr ws v) (hb : Below wr.heap.size wr w') : TkI w w' ws v :=
  ⟨own_next h.own hb, h.fp.next hb, h.fq.next hb, h.b.trans (hb.mono (by have := h.z; omega)), Nat.le_trans h.z hb.size⟩
/-- One word more. -/
theorem TkI.app {w wr : World} {ws : List (List UInt8)} {v : Value} (h : TkI w wr ws v) (x : ByteArray) (hn : ws.length ≤ 1000) : ∃ q9 k9 w9,
    (Builtin.append_ #[26, 26] 26 #[v, .slice (some ⟨wr.heap.size, 0, none⟩) 1 1]).run Tryd.prog (wr.alloc (.cells #[.string x] 9)) = .ok (.slice q9 (ws.length + 1) k9) w9 ∧
    w9.cell? ⟨w.heap.size + 1, 0, none⟩ = some v ∧ w9.frozen? ⟨w.heap.size + 1, 0, none⟩ = false ∧ TkI w (w9.setCell ⟨w.heap.size + 1, 0, none⟩ (.slice q9 (ws.length + 1) k9)) (ws ++ [x.data.toList]) (.slice q9 (ws.length + 1) k9) := by
  have bZ : Below wr.heap.size wr (wr.alloc (.cells #[.string x] 9)) := (Below.refl _ wr).alloc (Nat.le_refl _) _
  have hZ := h.next bZ
  have fZ : Full (wr.alloc (.cells #[.string x] 9)) wr.heap.size 9 [.string x] := Full.new wr _ _
  obtain ⟨v9, w9, r9, o9, g9⟩ := app_any (P := Tryd.prog) 26 26 _ 16 Tryd.underlying26 info_S rfl (by decide) (by decide) v ws.length _ hZ.own wr.heap.size [.string x] rfl (by simp [Value.oneCell']) fZ.range (by omega) (by have := hZ.z; omega)
  obtain ⟨q9, k9, rfl, -, -⟩ := own_slice o9
  refine ⟨q9, k9, w9, r9, ?_⟩
  have hne : ∀ k, k < w.heap.size + 2 → some k ≠ v.ownBlock := fun k hk e => by
    have := (hZ.own.lt _ e.symm).1
    omega
  have hk : ∀ k, k < w.heap.size + 2 → w9.heap[k]? = (wr.alloc (.cells #[.string x] 9)).heap[k]? := fun k hk => g9.block k (by have := hZ.z; omega) (fun e => hne k hk e)
  have fp9 : Full w9 (w.heap.size + 1) 59 [v, .string ⟨#[]⟩] := (hk _ (by omega)).trans hZ.fp
  have fq9 : Full w9 w.heap.size 59 [.slice none 0 0, .string ⟨#[]⟩] := (hk _ (by omega)).trans hZ.fq
  obtain ⟨c0, c1⟩ := fp9.cell 0 _ rfl
  refine ⟨c0, c1, ?_, ?_, ?_, ?_, ?_⟩
  · rw [List.length_append, List.map_append]
    refine own_same ?_ (fun g hg => set_heap (fun e => ?_))
    · show w9.ownsRow (w.heap.size + 2) 9 1 (.slice q9 (ws.length + 1) k9) (ws.length + 1) (ws.map sV ++ [sV x.data.toList])
      rw [sV_at (x := x) rfl]
      exact o9
    · have := (o9.lt _ hg).1
      have e2 : g = w.heap.size + 1 := e
      omega
  · exact Full.put1 (a := []) fp9 _
  · exact fq9.other1 (by show w.heap.size ≠ w.heap.size + 1; omega)
  · refine Below.setCell (p := ⟨w.heap.size + 1, 0, none⟩) ?_ (by show _ ≤ w.heap.size + 1; omega) _
    exact hZ.b.grown g9 (by have := hZ.z; omega) (fun k e => by have := (hZ.own.lt _ e).1; omega)
  · rw [set_size]; exact Nat.le_trans hZ.z g9.size
/-- What is answered. -/
theorem TkI.done {w W : World} {ws : List (List UInt8)} {v : Value} (h : TkI w W ws v) (t : ByteArray) :
    Full (((W.setCell ⟨w.heap.size + 1, 1, none⟩ (.string t)).setCell ⟨w.heap.size, 0, none⟩ v).setCell ⟨w.heap.size, 1, none⟩ (.string t)) w.heap.size 59 [v, .string t] ∧
    (((W.setCell ⟨w.heap.size + 1, 1, none⟩ (.string t)).setCell ⟨w.heap.size, 0, none⟩ v).setCell ⟨w.heap.size, 1, none⟩ (.string t)).ownsRow w.heap.size 9 1 v ws.length (ws.map sV) ∧
    Below w.heap.size w (((W.setCell ⟨w.heap.size + 1, 1, none⟩ (.string t)).setCell ⟨w.heap.size, 0, none⟩ v).setCell ⟨w.heap.size, 1, none⟩ (.string t)) := by
  refine ⟨?_, ?_, ?_⟩
  · exact Full.put1 (a := [v]) (Full.put1 (a := []) (h.fq.other1 (by show w.heap.size ≠ w.heap.size + 1; omega)) v) (.string t)
  · refine own_down (own_same h.own (fun g hg => ?_)) (by omega)
    have := (h.own.lt _ hg).1
    rw [set_heap (fun e => by have e2 : g = w.heap.size := e; omega), set_heap (fun e => by have e2 : g = w.heap.size := e; omega), set_heap (fun e => by have e2 : g = w.heap.size + 1 := e; omega)]
  · exact ((h.b.setCell (p := ⟨w.heap.size + 1, 1, none⟩) (by show _ ≤ w.heap.size + 1; omega) _).setCell (p := ⟨w.heap.size, 0, none⟩) (Nat.le_refl _) _).setCell (p := ⟨w.heap.size, 1, none⟩) (Nat.le_refl _) _
theorem sl_to {s x : ByteArray} {k : Nat} (hk : k ≤ s.size) (hx : x.data.toList = s.data.toList.take k) : ∀ wx : World, (Instr.slice 9 (.string s) none (some (.int .i64 (k : Int))) none).run Tryd.prog wx = .ok (.string x) wx := fun wx => by
  have h1 : (0 : Int) ≤ (k : Int) := by omega
  have h2 : (k : Int) ≤ (s.size : Int) := by omega
  have e : s.extract 0 k = x := by
    have h3 : (s.extract 0 k).data.toList = x.data.toList := by rw [Lib.extract_data, hx]; simp
    cases x with | mk d => cases hs : s.extract 0 k with | mk d2 => rw [hs] at h3; simp at h3; rw [h3]
  rw [← e]
  simp [go_sem, h1, h2]
theorem sl_from {s x : ByteArray} {k : Nat} (hk : k ≤ s.size) (hx : x.data.toList = s.data.toList.drop k) : ∀ wx : World, (Instr.slice 9 (.string s) (some (.int .i64 (k : Int))) none none).run Tryd.prog wx = .ok (.string x) wx := fun wx => by
  have h1 : (0 : Int) ≤ (k : Int) := by omega
  have h2 : (k : Int) ≤ (s.size : Int) := by omega
  have hsz := Lib.size_eq s
  have e : s.extract k s.size = x := by
    have h3 : (s.extract k s.size).data.toList = x.data.toList := by rw [Lib.extract_data, hx, List.take_of_length_le (by rw [List.length_drop]; omega)]
    cases x with | mk d => cases hs : s.extract k s.size with | mk d2 => rw [hs] at h3; simp at h3; rw [h3]
  rw [← e]
  simp [go_sem, h1, h2]

set_option maxRecDepth 100000 in
set_option maxHeartbeats 4000000 in
theorem taken_any (s : ByteArray) (w : World) (hs : s.size ≤ 300) (hT : Tb w) :
    Calls Tryd.prog 17 #[.string s] w fun e w' => ∃ v x, e = .returned (.agg #[v, .string x]) ∧ Hid (x.data.toList = (tkn (s.data.toList.length + 1) [] (trm s.data.toList)).2 ∧ w'.ownsRow w.heap.size 9 1 v (tkn (s.data.toList.length + 1) [] (trm s.data.toList)).1.length ((tkn (s.data.toList.length + 1) [] (trm s.data.toList)).1.map sV) ∧ Below w.heap.size w w') := by
  obtain ⟨R, hR⟩ : ∃ R, tkn (s.data.toList.length + 1) [] (trm s.data.toList) = R := ⟨_, rfl⟩
  rw [hR]
  have HR0 : Hid (tkn (s.data.toList.length + 1) [] (trm s.data.toList) = R) := hR
  have hsl := Lib.size_eq s
  clear hR
  obtain ⟨X1, hX1⟩ : ∃ X1, w.alloc (.cells #[.slice none 0 0, .string ⟨#[]⟩] 59) = X1 := ⟨_, rfl⟩
  have b1 : Below w.heap.size w X1 := by rw [← hX1]; exact (Below.refl _ w).alloc (Nat.le_refl _) _
  have f1 : Full X1 w.heap.size 59 [.slice none 0 0, .string ⟨#[]⟩] := by rw [← hX1]; exact Full.new w _ _
  have z1 : X1.heap.size = w.heap.size + 1 := by rw [← hX1]; simp
  obtain ⟨X2, hX2⟩ : ∃ X2, X1.alloc (.cells #[.slice none 0 0, .string ⟨#[]⟩] 59) = X2 := ⟨_, rfl⟩
  have n2 : Below X1.heap.size X1 X2 := by rw [← hX2]; exact (Below.refl _ X1).alloc (Nat.le_refl _) _
  have b2 : Below w.heap.size w X2 := b1.trans (n2.mono b1.size)
  have f2 : Full X2 (w.heap.size + 1) 59 [.slice none 0 0, .string ⟨#[]⟩] := by rw [← hX2, ← z1]; exact Full.new X1 _ _
  have f12 : Full X2 w.heap.size 59 [.slice none 0 0, .string ⟨#[]⟩] := f1.next n2
  have z2 : X2.heap.size = w.heap.size + 2 := by rw [← hX2]; simp [z1]
  have HF2 : Hid (Full X2 (w.heap.size + 1) 59 [.slice none 0 0, .string ⟨#[]⟩] ∧ Full X2 w.heap.size 59 [.slice none 0 0, .string ⟨#[]⟩] ∧ Below w.heap.size w X2 ∧ X2.heap.size = w.heap.size + 2) := ⟨f2, f12, b2, z2⟩
  have HT : Hid (Tb w) := hT
  have HW0 : Hid (∀ W : World, Calls Tryd.prog 25 #[.string s] W fun e w' => ∃ t : ByteArray, e = .returned (.string t) ∧ t.data.toList = trm s.data.toList ∧ w' = W) := fun W => without_any s W (by omega)
  clear hT f1 n2 b1 b2 f2 f12 z2
  go_enter Tryd.func17, Tryd.ntmps17
  go_wp2_with fail
  go_step3
  go_wp2_with (first
    | (go_at_call 25; refine (HW0.out _).mono ?_; rintro e w2 ⟨t0, rfl, ht0, hw2⟩; subst hw2)
    | go_in)
  go_step3
  go_wp2_with fail
  obtain ⟨hI0⟩ : Nonempty (TkI w w2 [] (.slice none 0 0)) := ⟨⟨World.ownsRow_nil _ _ _ _, HF2.out.1, HF2.out.2.1, HF2.out.2.2.1, by rw [HF2.out.2.2.2]; exact Nat.le_refl _⟩⟩
  have HI0 : Hid (TkI w w2 [] (.slice none 0 0)) := hI0
  clear hI0 hX1 z1 hX2 HF2 HW0
  go_loopg [4] (s.data.toList.length + 1) (fun g i wr => ∃ (r : ByteArray) (ws : List (List UInt8)) (v : Value), i = .string r ∧ r.data.toList.length < g ∧ ws.length + r.data.toList.length ≤ 300 ∧ Hid (tkn g ws r.data.toList = R) ∧ Hid (r.data.toList = [] ∨ ∃ c q, r.data.toList = c :: q ∧ bl c = false) ∧ Hid (TkI w wr ws v))
  case atStart =>
    have hl : (trm s.data.toList).length ≤ s.data.toList.length := trm_len _
    refine ⟨t0, [], _, rfl, by rw [ht0]; omega, by rw [ht0]; simp; omega, ?_, ?_, HI0⟩
    · show tkn _ [] t0.data.toList = R
      rw [ht0]; exact HR0.out
    · show t0.data.toList = [] ∨ _
      rw [ht0]; exact trm_head _
  case round =>
    obtain ⟨r, ws, v, rfl, hg, hn, hx, hh, hI⟩ := hrel
    cases gk with
    | zero => omega
    | succ g =>
    have hsz := Lib.size_eq r
    obtain ⟨qv, cv, rfl, hcv, -⟩ := own_slice hI.out.own
    by_cases h0 : r.size = 0
    · have hnil : r.data.toList = [] := nil_list h0
      have e0 : (r.toList == []) = true := by rw [Lx.toL, hnil]; rfl
      have HE : Hid (R = (ws, r.data.toList)) := by
        show R = (ws, r.data.toList)
        rw [← hx.out, hnil, tkn_end]
      obtain ⟨p0, pf0⟩ := hI.out.fp.cell 0 _ rfl
      obtain ⟨p1, pf1⟩ := hI.out.fp.cell 1 _ rfl
      obtain ⟨q0, qf0⟩ := hI.out.fq.cell 0 _ rfl
      obtain ⟨q1, qf1⟩ := hI.out.fq.cell 1 _ rfl
      clear hx hh hsz hnil h0 hn hg
      go_wp2
      try rw [Exit.noGoto_ret]
      refine bodyPost_ret (ret_parts (hI.out.done r).1 rfl) rfl ?_
      refine ⟨_, r, rfl, ?_⟩
      show _ ∧ _ ∧ _
      rw [HE.out]
      exact ⟨rfl, (hI.out.done r).2⟩
    · have hne : r.data.toList ≠ [] := fun h => by have h2 := congrArg List.length h; simp only [List.length_nil] at h2; omega
      have e0 : (r.toList == []) = false := by rw [Lx.toL, beq_eq_false_iff_ne]; exact hne
      have hh2 := hh.out.resolve_left hne
      have hnl := nxt_len hh2
      have hwl := wln_le r.data.toList
      obtain ⟨k, hk⟩ : ∃ k, wln r.data.toList = k := ⟨_, rfl⟩
      have hk1 : 1 ≤ k := by
        obtain ⟨c, q, e, hc⟩ := hh2
        rw [← hk, e]; exact wln_pos c q hc
      obtain ⟨x, hxw⟩ : ∃ x : ByteArray, x.data.toList = wrd r.data.toList := ⟨⟨(wrd r.data.toList).toArray⟩, rfl⟩
      obtain ⟨y, hy⟩ : ∃ y : ByteArray, y.data.toList = r.data.toList.drop k := ⟨⟨(r.data.toList.drop k).toArray⟩, rfl⟩
      have R1 := sl_to (s := r) (x := x) (k := k) (by omega) (by rw [hxw, ← hk]; rfl)
      have R2 := sl_from (s := r) (x := y) (k := k) (by omega) hy
      have hysz : y.size ≤ 300 := by rw [Lib.size_eq, hy, List.length_drop]; omega
      have HWe : Hid (∀ W : World, Calls Tryd.prog 26 #[.string r] W fun e w' => e = .returned (.int .i64 (k : Int)) ∧ w' = W) := fun W => by have := wordEnd_any r W (by omega); rw [hk] at this; exact this
      have HWb : Hid (∀ W : World, Calls Tryd.prog 25 #[.string y] W fun e w' => ∃ t : ByteArray, e = .returned (.string t) ∧ t.data.toList = nxt r.data.toList ∧ w' = W) := fun W => by
        have := without_any y W (by omega)
        rw [hy, ← hk] at this
        exact this
      obtain ⟨D, hD⟩ : ∃ D, wr.drew = D := ⟨_, rfl⟩
      have bD : Below wr.heap.size wr D := by rw [← hD]; exact (Below.refl _ wr).drew
      have hID := hI.out.next bD
      obtain ⟨Z, hZ⟩ : ∃ Z, D.alloc (.cells #[.string x] 9) = Z := ⟨_, rfl⟩
      have bZ : Below D.heap.size D Z := by rw [← hZ]; exact (Below.refl _ D).alloc (Nat.le_refl _) _
      obtain ⟨q9, k9, w9, r9, c9, fr9, hI9⟩ := hID.app x (by omega)
      rw [hZ] at r9
      have p0 := (hID.fp.cell 0 _ rfl).1
      have p1 := ((hID.next bZ).fp.cell 0 _ rfl).1
      have p2 := (hI.out.fp.cell 0 _ rfl).1
      have HI9 : Hid _ := hI9
      clear hID bD bZ hI9 hh hwl
      go_wp2_with (first
        | (go_at_call 26; refine (HWe.out _).mono ?_; rintro e w3 ⟨rfl, hw3⟩; subst hw3)
        | fail)
      obtain rfl : w3.drew = D := hD
      go_region_law (first
        | (refine step_apr (by rfl) (.tmp 13) (.tmp 17) 26 (by rfl) (by rfl) (.slice qv ws.length cv) (.slice (some ⟨w3.heap.size, 0, none⟩) 1 1) (by exact r9) (by rfl) (by rfl) ?_)
        | fail)
      all_goals
        obtain ⟨W, hW⟩ : ∃ W, w9.setCell ⟨w.heap.size + 1, 0, none⟩ (.slice q9 (ws.length + 1) k9) = W := ⟨_, rfl⟩
        have hI9 := HI9.out
        rw [hxw, hW] at hI9
        rw [hW]
        have HI : Hid (TkI w W (ws ++ [wrd r.data.toList]) (.slice q9 (ws.length + 1) k9)) := hI9
        have HTW : Hid (Tb W) := HT.out.next hI9.b
        have hrng : ∃ g, q9 = some ⟨g, 0, none⟩ ∧ W.rangeAt g 0 ((ws ++ [wrd r.data.toList]).map sV) := by
          obtain ⟨q, c, e, -, h⟩ := own_slice hI9.own
          simp only [Value.slice.injEq] at e
          obtain ⟨rfl, -, rfl⟩ := e
          exact h (by rw [List.length_append]; simp)
        obtain ⟨gq, rfl, hrng⟩ := hrng
        have hcx : W.cell? ⟨gq, ws.length, none⟩ = some (.string x) := by
          have := hrng ws.length (.string x) (by rw [List.getElem?_map, List.getElem?_append_right (Nat.le_refl _), Nat.sub_self]; simp [sV_at hxw])
          rwa [Nat.zero_add] at this
        obtain ⟨w0, hw0⟩ : ∃ w0 : Nat, ws.length = w0 := ⟨_, rfl⟩
        obtain ⟨p0, pf0⟩ := hI9.fp.cell 0 _ rfl
        clear hI9 HI9 hW c9 fr9 r9 p1 p2 hZ hrng hcv HR0 hsl HI0 HWe R1 e0 hsz h0 hysz
        have hfuel : (nxt r.data.toList).length < g := by omega
        have hnn : ws.length + 1 + (nxt r.data.toList).length ≤ 300 := by omega
        by_cases h1 : w0 = 0
        · obtain rfl : ws = [] := List.eq_nil_of_length_eq_zero (by omega)
          have HK : Hid (∀ X : World, Tb X → Calls Tryd.prog 27 #[.string x] X fun e w' => e = .returned (.int .i64 (knd (wrd r.data.toList) : Int)) ∧ Below X.heap.size X w') := fun X hX => by have := kindOf_any x X hX; rwa [hxw] at this
          have hkl := knd_lt (wrd r.data.toList)
          have HTT : Hid (∀ X : World, Tb X → X.cell? ⟨0, knd (wrd r.data.toList) * 2 + 1, none⟩ = some (.int .i64 (tks (knd (wrd r.data.toList)) : Int))) := fun X hX => hX.takes _ hkl
          obtain ⟨kn, hkn⟩ : ∃ kn, knd (wrd r.data.toList) = kn := ⟨_, rfl⟩
          obtain ⟨tn, htn⟩ : ∃ tn, tks kn = tn := ⟨_, rfl⟩
          rw [hkn] at HK hkl HTT
          rw [htn] at HTT
          have hk0 : (0 : Int) ≤ (kn : Int) := by omega
          have hk2 : (kn : Int) < 23 := by omega
          clear h1 hw0
          simp only [List.length_nil, Nat.zero_add, List.nil_append] at *
          by_cases h6 : tn = 6
          · have HE : Hid (R = ([wrd r.data.toList], nxt r.data.toList)) := by
              show R = _
              rw [← hx.out, tkn_stop g [] _ hne (.inl ⟨rfl, by rw [hkn, htn]; exact h6⟩)]; rfl
            subst h6
            clear hx htn hkn
            go_wp2_with (first
              | (go_at_call 25; refine (HWb.out _).mono ?_; rintro e w4 ⟨t2, rfl, ht2, hw4⟩; subst hw4)
              | (go_at_call 27; refine (HK.out _ HTW.out).mono ?_; rintro e w5 ⟨rfl, hb5⟩; have HI5 : Hid _ := HI.out.next hb5; have ct := HTT.out _ (HTW.out.next hb5); clear p0 pf0; obtain ⟨p0, pf0⟩ := HI5.out.fp.cell 0 _ rfl; obtain ⟨p1, pf1⟩ := HI5.out.fp.cell 1 _ rfl; obtain ⟨q0, qf0⟩ := HI5.out.fq.cell 0 _ rfl; obtain ⟨q1, qf1⟩ := HI5.out.fq.cell 1 _ rfl)
              | go_in)
            try rw [Exit.noGoto_ret]
            refine bodyPost_ret (ret_parts (HI5.out.done t2).1 rfl) rfl ?_
            refine ⟨_, t2, rfl, ?_⟩
            show _ ∧ _ ∧ _
            rw [HE.out]
            exact ⟨ht2, (HI5.out.done t2).2⟩
          · have HX : Hid (tkn g [wrd r.data.toList] (nxt r.data.toList) = R) := by
              show _ = R
              rw [← hx.out, tkn_go g [] _ hne (by
                rintro (⟨-, h⟩ | ⟨h, -⟩)
                · rw [hkn, htn] at h; exact h6 h
                · simp at h)]
              rfl
            have h6f : ((tn : Int) == 6) = false := by rw [beq_eq_false_iff_ne]; omega
            clear hx htn hkn
            go_wp2_with (first
              | (go_at_call 25; refine (HWb.out _).mono ?_; rintro e w4 ⟨t2, rfl, ht2, hw4⟩; subst hw4)
              | (go_at_call 27; refine (HK.out _ HTW.out).mono ?_; rintro e w5 ⟨rfl, hb5⟩; have HI5 : Hid _ := HI.out.next hb5; have ct := HTT.out _ (HTW.out.next hb5); clear p0 pf0; obtain ⟨p0, pf0⟩ := HI5.out.fp.cell 0 _ rfl; obtain ⟨p1, pf1⟩ := HI5.out.fp.cell 1 _ rfl; obtain ⟨q0, qf0⟩ := HI5.out.fq.cell 0 _ rfl; obtain ⟨q1, qf1⟩ := HI5.out.fq.cell 1 _ rfl)
              | go_in)
            go_roundg g
            case measure => omega
            case rel => exact ⟨t2, [wrd r.data.toList], _, rfl, by rw [ht2]; omega, by rw [ht2]; simp; omega, by show _ = _; rw [ht2]; exact HX.out, by show _ ∨ _; rw [ht2]; exact trm_head _, HI5⟩
        · have hl1 : ((w0 : Int) + 1 == 1) = false := by rw [beq_eq_false_iff_ne]; omega
          have hl1' : (((w0 + 1 : Nat) : Int) == 1) = false := by rw [beq_eq_false_iff_ne]; omega
          obtain ⟨p1, pf1⟩ := HI.out.fp.cell 1 _ rfl
          obtain ⟨q0, qf0⟩ := HI.out.fq.cell 0 _ rfl
          obtain ⟨q1, qf1⟩ := HI.out.fq.cell 1 _ rfl
          by_cases h2 : w0 = 2
          · have hw2 : ws.length = 2 := by omega
            clear hl1 hl1' h1
            subst h2
            rw [hw0] at HI hcx p0 ⊢
            by_cases hif : wrd r.data.toList = ifw
            · have HE : Hid (R = (ws ++ [wrd r.data.toList], nxt r.data.toList)) := by
                show R = _
                rw [← hx.out, tkn_stop g ws _ hne (.inr ⟨by rw [List.length_append, hw2]; rfl, hif⟩)]
              have hq : (x.toList == [105, 102]) = true := by rw [Lx.toL, hxw, hif]; rfl
              clear hx hif
              go_wp2_with (first
                | (go_at_call 25; refine (HWb.out _).mono ?_; rintro e w4 ⟨t2, rfl, ht2, hw4⟩; subst hw4)
                | go_in)
              try rw [Exit.noGoto_ret]
              refine bodyPost_ret (ret_parts (HI.out.done t2).1 rfl) rfl ?_
              refine ⟨_, t2, rfl, ?_⟩
              show _ ∧ _ ∧ _
              rw [HE.out]
              exact ⟨ht2, (HI.out.done t2).2⟩
            · have HX : Hid (tkn g (ws ++ [wrd r.data.toList]) (nxt r.data.toList) = R) := by
                show _ = R
                rw [← hx.out, tkn_go g ws _ hne (by
                  rintro (⟨h, -⟩ | ⟨-, h⟩)
                  · rw [List.length_append, hw2] at h; simp at h
                  · exact hif h)]
              have hq : (x.toList == [105, 102]) = false := by rw [Lx.toL, hxw, beq_eq_false_iff_ne]; exact hif
              clear hx hif
              go_wp2_with (first
                | (go_at_call 25; refine (HWb.out _).mono ?_; rintro e w4 ⟨t2, rfl, ht2, hw4⟩; subst hw4)
                | go_in)
              go_roundg g
              case measure => omega
              case rel => exact ⟨t2, ws ++ [wrd r.data.toList], _, rfl, by rw [ht2]; omega, by rw [ht2]; simp; omega, by show _ = _; rw [ht2]; exact HX.out, by show _ ∨ _; rw [ht2]; exact trm_head _, HI⟩
          · have hl3 : ((w0 : Int) + 1 == 3) = false := by rw [beq_eq_false_iff_ne]; omega
            have hl3' : (((w0 + 1 : Nat) : Int) == 3) = false := by rw [beq_eq_false_iff_ne]; omega
            have HX : Hid (tkn g (ws ++ [wrd r.data.toList]) (nxt r.data.toList) = R) := by
              show _ = R
              rw [← hx.out, tkn_go g ws _ hne (by
                rintro (⟨h, -⟩ | ⟨h, -⟩) <;> simp only [List.length_append, List.length_cons, List.length_nil] at h <;> omega)]
            have hnn2 : ws.length + 1 + (nxt r.data.toList).length ≤ 300 := hnn
            rw [hw0] at HI hcx p0 ⊢
            clear hx
            go_wp2_with (first
              | (go_at_call 25; refine (HWb.out _).mono ?_; rintro e w4 ⟨t2, rfl, ht2, hw4⟩; subst hw4)
              | go_in)
            go_roundg g
            case measure => omega
            case rel => exact ⟨t2, ws ++ [wrd r.data.toList], _, rfl, by rw [ht2]; omega, by rw [ht2]; simp; omega, by show _ = _; rw [ht2]; exact HX.out, by show _ ∨ _; rw [ht2]; exact trm_head _, HI⟩
end Go.Proofs.YtichbejmelkjeaaDoor
