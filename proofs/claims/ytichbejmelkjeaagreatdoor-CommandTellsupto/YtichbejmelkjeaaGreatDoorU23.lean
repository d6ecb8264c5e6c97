import Derived.Deep.LoopGhost
import Derived.Lib.QuietBelow
import Derived.Test.YtichbejmelkjeaaGreatDoorU18
import Derived.Test.YtichbejmelkjeaaGreatDoorU19
import Derived.Test.YtichbejmelkjeaaGreatDoorU11
namespace Go.Proofs.YtichbejmelkjeaaGreatDoor
open Go.RowKit

def sV (l : List UInt8) : Value := .string ⟨l.toArray⟩
theorem sV_at {x : ByteArray} {l : List UInt8} (h : x.data.toList = l) : sV l = .string x := by
  unfold sV; rw [← h]
theorem info_S : (Tryz.prog.info? 9).map (fun i => (i.zero, i.size, i.bytes)) = some (some (.string ⟨#[]⟩), 1, 16) := by kernel_rfl
theorem ret_parts {w : World} {B : Nat} {a b : Value} {tm : Array Value} (hf : Full w B 67 [a, b]) (h2 : tm[2]?.getD undef = .pointer (some ⟨B, 0, none⟩)) :
    (results Tryz.f25 tm).run Tryz.prog w = .ok (.agg #[a, b]) w := by
  have c0 := (hf.cell 0 _ rfl).1
  have c1 := (hf.cell 1 _ rfl).1
  simp [results, Tryz.results25, go_sem, h2, c0, c1]

theorem tkn_end (g : Nat) (ws : List (List UInt8)) : tkn (g + 1) ws [] = (ws, []) := rfl
theorem tkn_stop (g : Nat) (ws : List (List UInt8)) (r : List UInt8) (h : r ≠ []) (hc : ((ws ++ [wrd r]).length = 1 ∧ tks (knd (wrd r)) = 6) ∨ ((ws ++ [wrd r]).length = 3 ∧ wrd r = ifw)) : tkn (g + 1) ws r = (ws ++ [wrd r], nxt r) := by
  unfold tkn; rw [if_neg h, if_pos hc]
theorem tkn_go (g : Nat) (ws : List (List UInt8)) (r : List UInt8) (h : r ≠ []) (hc : ¬ (((ws ++ [wrd r]).length = 1 ∧ tks (knd (wrd r)) = 6) ∨ ((ws ++ [wrd r]).length = 3 ∧ wrd r = ifw))) : tkn (g + 1) ws r = tkn g (ws ++ [wrd r]) (nxt r) := by
  conv => lhs; unfold tkn
  rw [if_neg h, if_neg hc]

/-- Where taken stands: the words so far. -/
structure TkI (w wr : World) (ws : List (List UInt8)) (v : Value) : Prop where
  own : wr.ownsRow (w.heap.size + 2) 9 1 v ws.length (ws.map sV)
  fp : Full wr (w.heap.size + 1) 67 [v, .string ⟨#[]⟩]
  fq : Full wr w.heap.size 67 [.slice none 0 0, .string ⟨#[]⟩]
  b : Below w.heap.size w wr
  z : w.heap.size + 2 ≤ wr.heap.size
theorem TkI.next {w wr w' : World} {ws : List (List UInt8)} {v : Value} (h : TkI w wr ws v) (hb : Below wr.heap.size wr w') : TkI w w' ws v :=
  ⟨own_next h.own hb, h.fp.next hb, h.fq.next hb, h.b.trans (hb.mono (by have := h.z; omega)), Nat.le_trans h.z hb.size⟩
/-- One word more. -/
theorem TkI.app {w wr : World} {ws : List (List UInt8)} {v : Value} (h : TkI w wr ws v) (x : ByteArray) (hn : ws.length ≤ 1000) : ∃ q9 k9 w9,
    (Builtin.append_ #[36, 36] 36 #[v, .slice (some ⟨wr.heap.size, 0, none⟩) 1 1]).run Tryz.prog (wr.alloc (.cells #[.string x] 9)) = .ok (.slice q9 (ws.length + 1) k9) w9 ∧
    w9.cell? ⟨w.heap.size + 1, 0, none⟩ = some v ∧ w9.frozen? ⟨w.heap.size + 1, 0, none⟩ = false ∧ TkI w (w9.setCell ⟨w.heap.size + 1, 0, none⟩ (.slice q9 (ws.length + 1) k9)) (ws ++ [x.data.toList]) (.slice q9 (ws.length + 1) k9) := by
  have bZ : Below wr.heap.size wr (wr.alloc (.cells #[.string x] 9)) := (Below.refl _ wr).alloc (Nat.le_refl _) _
  have hZ := h.next bZ
  have fZ : Full (wr.alloc (.cells #[.string x] 9)) wr.heap.size 9 [.string x] := Full.new wr _ _
  obtain ⟨v9, w9, r9, o9, g9⟩ := app_any (P := Tryz.prog) 36 36 _ 16 Tryz.underlying36 info_S rfl (by decide) (by decide) v ws.length _ hZ.own wr.heap.size [.string x] rfl (by simp [Value.oneCell']) fZ.range (by omega) (by have := hZ.z; omega)
  obtain ⟨q9, k9, rfl, -, -⟩ := own_slice o9
  refine ⟨q9, k9, w9, r9, ?_⟩
  have hne : ∀ k, k < w.heap.size + 2 → some k ≠ v.ownBlock := fun k hk e => by
    have := (hZ.own.lt _ e.symm).1
    omega
  have hk : ∀ k, k < w.heap.size + 2 → w9.heap[k]? = (wr.alloc (.cells #[.string x] 9)).heap[k]? := fun k hk => g9.block k (by have := hZ.z; omega) (fun e => hne k hk e)
  have fp9 : Full w9 (w.heap.size + 1) 67 [v, .string ⟨#[]⟩] := (hk _ (by omega)).trans hZ.fp
  have fq9 : Full w9 w.heap.size 67 [.slice none 0 0, .string ⟨#[]⟩] := (hk _ (by omega)).trans hZ.fq
  obtain ⟨c0, c1⟩ := fp9.cell 0 _ rfl
  refine ⟨c0, c1, ?_, ?_, ?_, ?_, ?_⟩
  · rw [List.length_append, List.map_append]
    refine own_same ?_ (fun g hg => set_heap (fun e => ?_))
    · show w9.ownsRow (w.heap.size + 2) 9 1 (.slice q9 (ws.length + 1) k9) (ws.length + 1) (ws.map sV ++ [sV x.data.toList])
      rw [sV_at (x := x) rfl]
      exact o9
    · have := (o9.lt _ hg).1
      have e2 : g = w.heap.size + 1 := e
      omega
  · exact Full.put1 (a := []) fp9 _
  · exact fq9.other1 (by show w.heap.size ≠ w.heap.size + 1; omega)
  · refine Below.setCell (p := ⟨w.heap.size + 1, 0, none⟩) ?_ (by show _ ≤ w.heap.size + 1; omega) _
    exact hZ.b.grown g9 (by have := hZ.z; omega) (fun k e => by have := (hZ.own.lt _ e).1; omega)
  · rw [set_size]; exact Nat.le_trans hZ.z g9.size
/-- What is answered. -/
theorem TkI.done {w W : World} {ws : List (List UInt8)} {v : Value} (h : TkI w W ws v) (t : ByteArray) :
    Full (((W.setCell ⟨w.heap.size + 1, 1, none⟩ (.string t)).setCell ⟨w.heap.size, 0, none⟩ v).setCell ⟨w.heap.size, 1, none⟩ (.string t)) w.heap.size 67 [v, .string t] ∧
    (((W.setCell ⟨w.heap.size + 1, 1, none⟩ (.string t)).setCell ⟨w.heap.size, 0, none⟩ v).setCell ⟨w.heap.size, 1, none⟩ (.string t)).ownsRow w.heap.size 9 1 v ws.length (ws.map sV) ∧
    Below w.heap.size w (((W.setCell ⟨w.heap.size + 1, 1, none⟩ (.string t)).setCell ⟨w.heap.size, 0, none⟩ v).setCell ⟨w.heap.size, 1, none⟩ (.string t)) := by
  refine ⟨?_, ?_, ?_⟩
  · exact Full.put1 (a := [v]) (Full.put1 (a := []) (h.fq.other1 (by show w.heap.size ≠ w.heap.size + 1; omega)) v) (.string t)
  · refine own_down (own_same h.own (fun g hg => ?_)) (by omega)
    have := (h.own.lt _ hg).1
    rw [set_heap (fun e => by have e2 : g = w.heap.size := e; omega), set_heap (fun e => by have e2 : g = w.heap.size := e; omega), set_heap (fun e => by have e2 : g = w.heap.size + 1 := e; omega)]
  · exact ((h.b.setCell (p := ⟨w.heap.size + 1, 1, none⟩) (by show _ ≤ w.heap.size + 1; omega) _).setCell (p := ⟨w.heap.size, 0, none⟩) (Nat.le_refl _) _).setCell (p := ⟨w.heap.size, 1, none⟩) (Nat.le_refl _) _
theorem sl_to {s x : ByteArray} {k : Nat} (hk : k ≤ s.size) (hx : x.data.toList = s.data.toList.take k) : ∀ wx : World, (Instr.slice 9 (.string s) none (some (.int .i64 (k : Int))) none).run Tryz.prog wx = .ok (.string x) wx := fun wx => by
  have h1 : (0 : Int) ≤ (k : Int) := by omega
  have h2 : (k : Int) ≤ (s.size : Int) := by omega
  have e : s.extract 0 k = x := by
    have h3 : (s.extract 0 k).data.toList = x.data.toList := by rw [Lib.extract_data, hx]; simp
    cases x with | mk d => cases hs : s.extract 0 k with | mk d2 => rw [hs] at h3; simp at h3; rw [h3]
  rw [← e]
  simp [go_sem, h1, h2]
theorem sl_from {s x : ByteArray} {k : Nat} (hk : k ≤ s.size) (hx : x.data.toList = s.data.toList.drop k) : ∀ wx : World, (Instr.slice 9 (.string s) (some (.int .i64 (k : Int))) none none).run Tryz.prog wx = .ok (.string x) wx := fun wx => by
  have h1 : (0 : Int) ≤ (k : Int) := by omega
  have h2 : (k : Int) ≤ (s.size : Int) := by omega
  have hsz := Lib.size_eq s
  have e : s.extract k s.size = x := by
    have h3 : (s.extract k s.size).data.toList = x.data.toList := by rw [Lib.extract_data, hx, List.take_of_length_le (by rw [List.length_drop]; omega)]
    cases x with | mk d => cases hs : s.extract k s.size with | mk d2 => rw [hs] at h3; simp at h3; rw [h3]
  rw [← e]
  simp [go_sem, h1, h2]

set_option maxRecDepth 100000 in
set_option maxHeartbeats 4000000 in
theorem taken_any (s : ByteArray) (w : World) (hs : s.size ≤ 300) (hT : Tb w) :
    Calls Tryz.prog 25 #[.string s] w fun e w' => ∃ v x, e = .returned (.agg #[v, .string x]) ∧ Hid (x.data.toList = (tkn (s.data.toList.length + 1) [] (trm s.data.toList)).2 ∧ w'.ownsRow w.heap.size 9 1 v (tkn (s.data.toList.length + 1) [] (trm s.data.toList)).1.length ((tkn (s.data.toList.length + 1) [] (trm s.data.toList)).1.map sV) ∧ Below w.heap.size w w') := by
  obtain ⟨R, hR⟩ : ∃ R, tkn (s.data.toList.length + 1) [] (trm s.data.toList) = R := ⟨_, rfl⟩
  rw [hR]
  have HR0 : Hid (tkn (s.data.toList.length + 1) [] (trm s.data.toList) = R) := hR
  have hsl := Lib.size_eq s
  clear hR
  obtain ⟨X1, hX1⟩ : ∃ X1, w.alloc (.cells #[.slice none 0 0, .string ⟨#[]⟩] 67) = X1 := ⟨_, rfl⟩
  have b1 : Below w.heap.size w X1 := by rw [← hX1]; exact (Below.refl _ w).alloc (Nat.le_refl _) _
  have f1 : Full X1 w.heap.size 67 [.slice none 0 0, .string ⟨#[]⟩] := by rw [← hX1]; exact Full.new w _ _
  have z1 : X1.heap.size = w.heap.size + 1 := by rw [← hX1]; simp
  obtain ⟨X2, hX2⟩ : ∃ X2, X1.alloc (.cells #[.slice none 0 0, .string ⟨#[]⟩] 67) = X2 := ⟨_, rfl⟩
  have n2 : Below X1.heap.size X1 X2 := by rw [← hX2]; exact (Below.refl _ X1).alloc (Nat.le_refl _) _
  have b2 : Below w.heap.size w X2 := b1.trans (n2.mono b1.size)
  have f2 : Full X2 (w.heap.size + 1) 67 [.slice none 0 0, .string ⟨#[]⟩] := by rw [← hX2, ← z1]; exact Full.new X1 _ _
  have f12 : Full X2 w.heap.size 67 [.slice none 0 0, .string ⟨#[]⟩] := f1.next n2
  have z2 : X2.heap.size = w.heap.size + 2 := by rw [← hX2]; simp [z1]
  have HF2 : Hid (Full X2 (w.heap.size + 1) 67 [.slice none 0 0, .string ⟨#[]⟩] ∧ Full X2 w.heap.size 67 [.slice none 0 0, .string ⟨#[]⟩] ∧ Below w.heap.size w X2 ∧ X2.heap.size = w.heap.size + 2) := ⟨f2, f12, b2, z2⟩
  have HT : Hid (Tb w) := hT
  have HW0 : Hid (∀ W : World, Calls Tryz.prog 42 #[.string s] W fun e w' => ∃ t : ByteArray, e = .returned (.string t) ∧ t.data.toList = trm s.data.toList ∧ w' = W) := fun W => without_any s W (by omega)
  clear hT f1 n2 b1 b2 f2 f12 z2
  go_enter Tryz.func25, Tryz.ntmps25
  go_wp2_with fail
  go_step3
  go_wp2_with (first
    | (go_at_call 42; refine (HW0.out _).mono ?_; rintro e w2 ⟨t0, rfl, ht0, hw2⟩; subst hw2)
    | go_in)
  go_step3
  go_wp2_with fail
  obtain ⟨hI0⟩ : Nonempty (TkI w w2 [] (.slice none 0 0)) := ⟨⟨World.ownsRow_nil _ _ _ _, HF2.out.1, HF2.out.2.1, HF2.out.2.2.1, by rw [HF2.out.2.2.2]; exact Nat.le_refl _⟩⟩
  have HI0 : Hid (TkI w w2 [] (.slice none 0 0)) := hI0
  clear hI0 hX1 z1 hX2 HF2 HW0
  go_loopg [4] (s.data.toList.length + 1) (fun g i wr => ∃ (r : ByteArray) (ws : List (List UInt8)) (v : Value), i = .string r ∧ r.data.toList.length < g ∧ ws.length + r.data.toList.length ≤ 300 ∧ Hid (tkn g ws r.data.toList = R) ∧ Hid (r.data.toList = [] ∨ ∃ c q, r.data.toList = c :: q ∧ bl c = false) ∧ Hid (TkI w wr ws v))
  case atStart =>
    have hl : (trm s.data.toList).length ≤ s.data.toList.length := trm_len _
    refine ⟨t0, [], _, rfl, by rw [ht0]; omega, by rw [ht0]; simp; omega, ?_, ?_, HI0⟩
    · show tkn _ [] t0.data.toList = R
      rw [ht0]; exact HR0.out
    · show t0.data.toList = [] ∨ _
      rw [ht0]; exact trm_head _
  case round =>
    obtain ⟨r, ws, v, rfl, hg, hn, hx, hh, hI⟩ := hrel
    cases gk with
    | zero => omega
    | succ g =>
    have hsz := Lib.size_eq r
    obtain ⟨qv, cv, rfl, hcv, -⟩ := own_slice hI.out.own
    by_cases h0 : r.size = 0
    · have hnil : r.data.toList = [] := nil_list h0
      have e0 : (r.toList == []) = true := by rw [Lx.toL, hnil]; rfl
      have HE : Hid (R = (ws, r.data.toList)) := by
        show R = (ws, r.data.toList)
        rw [← hx.out, hnil, tkn_end]
      obtain ⟨p0, pf0⟩ := hI.out.fp.cell 0 _ rfl
      obtain ⟨p1, pf1⟩ := hI.out.fp.cell 1 _ rfl
      obtain ⟨q0, qf0⟩ := hI.out.fq.cell 0 _ rfl
      obtain ⟨q1, qf1⟩ := hI.out.fq.cell 1 _ rfl
      clear hx hh hsz hnil h0 hn hg
      go_wp2
      try rw [Exit.noGoto_ret]
      refine bodyPost_ret (ret_parts (hI.out.done r).1 rfl) rfl ?_
      refine ⟨_, r, rfl, ?_⟩
      show _ ∧ _ ∧ _
      rw [HE.out]
      exact ⟨rfl, (hI.out.done r).2⟩
    · have hne : r.data.toList ≠ [] := fun h => by have h2 := congrArg List.length h; simp only [List.length_nil] at h2; omega
      have e0 : (r.toList == []) = false := by rw [Lx.toL, beq_eq_false_iff_ne]; exact hne
      have hh2 := hh.out.resolve_left hne
      have hnl := nxt_len hh2
      have hwl := wln_le r.data.toList
      obtain ⟨k, hk⟩ : ∃ k, wln r.data.toList = k := ⟨_, rfl⟩
      have hk1 : 1 ≤ k := by
        obtain ⟨c, q, e, hc⟩ := hh2
        rw [← hk, e]; exact wln_pos c q hc
      obtain ⟨x, hxw⟩ : ∃ x : ByteArray, x.data.toList = wrd r.data.toList := ⟨⟨(wrd r.data.toList).toArray⟩, rfl⟩
      obtain ⟨y, hy⟩ : ∃ y : ByteArray, y.data.toList = r.data.toList.drop k := ⟨⟨(r.data.toList.drop k).toArray⟩, rfl⟩
      have R1 := sl_to (s := r) (x := x) (k := k) (by omega) (by rw [hxw, ← hk]; rfl)
      have R2 := sl_from (s := r) (x := y) (k := k) (by omega) hy
      have hysz : y.size ≤ 300 := by rw [Lib.size_eq, hy, List.length_drop]; omega
      have HWe : Hid (∀ W : World, Calls Tryz.prog 43 #[.string r] W fun e w' => e = .returned (.int .i64 (k : Int)) ∧ w' = W) := fun W => by have := wordEnd_any r W (by omega); rw [hk] at this; exact this
      have HWb : Hid (∀ W : World, Calls Tryz.prog 42 #[.string y] W fun e w' => ∃ t : ByteArray, e = .returned (.string t) ∧ t.data.toList = nxt r.data.toList ∧ w' = W) := fun W => by
        have := without_any y W (by omega)
        rw [hy, ← hk] at this
        exact this
      obtain ⟨D, hD⟩ : ∃ D, wr.drew = D := ⟨_, rfl⟩
      have bD : Below wr.heap.size wr D := by rw [← hD]; exact (Below.refl _ wr).drew
      have hID := hI.out.next bD
      obtain ⟨Z, hZ⟩ : ∃ Z, D.alloc (.cells #[.string x] 9) = Z := ⟨_, rfl⟩
      have bZ : Below D.heap.size D Z := by rw [← hZ]; exact (Below.refl _ D).alloc (Nat.le_refl _) _
      obtain ⟨q9, k9, w9, r9, c9, fr9, hI9⟩ := hID.app x (by omega)
      rw [hZ] at r9
      have p0 := (hID.fp.cell 0 _ rfl).1
      have p1 := ((hID.next bZ).fp.cell 0 _ rfl).1
      have p2 := (hI.out.fp.cell 0 _ rfl).1
      have HI9 : Hid _ := hI9
      clear hID bD bZ hI9 hh hwl
      go_wp2_with (first
        | (go_at_call 43; refine (HWe.out _).mono ?_; rintro e w3 ⟨rfl, hw3⟩; subst hw3)
        | fail)
      obtain rfl : w3.drew = D := hD
      go_region_law (first
        | (refine step_apr (by rfl) (.tmp 13) (.tmp 17) 36 (by rfl) (by rfl) (.slice qv ws.length cv) (.slice (some ⟨w3.heap.size, 0, none⟩) 1 1) (by exact r9) (by rfl) (by rfl) ?_)
        | fail)
      all_goals
        obtain ⟨W, hW⟩ : ∃ W, w9.setCell ⟨w.heap.size + 1, 0, none⟩ (.slice q9 (ws.length + 1) k9) = W := ⟨_, rfl⟩
        have hI9 := HI9.out
        rw [hxw, hW] at hI9
        rw [hW]
        have HI : Hid (TkI w W (ws ++ [wrd r.data.toList]) (.slice q9 (ws.length + 1) k9)) := hI9
        have HTW : Hid (Tb W) := HT.out.next hI9.b
        have hrng : ∃ g, q9 = some ⟨g, 0, none⟩ ∧ W.rangeAt g 0 ((ws ++ [wrd r.data.toList]).map sV) := by
          obtain ⟨q, c, e, -, h⟩ := own_slice hI9.own
          simp only [Value.slice.injEq] at e
          obtain ⟨rfl, -, rfl⟩ := e
          exact h (by rw [List.length_append]; simp)
        obtain ⟨gq, rfl, hrng⟩ := hrng
        have hcx : W.cell? ⟨gq, ws.length, none⟩ = some (.string x) := by
          have := hrng ws.length (.string x) (by rw [List.getElem?_map, List.getElem?_append_right (Nat.le_refl _), Nat.sub_self]; simp [sV_at hxw])
          rwa [Nat.zero_add] at this
        obtain ⟨w0, hw0⟩ : ∃ w0 : Nat, ws.length = w0 := ⟨_, rfl⟩
        obtain ⟨p0, pf0⟩ := hI9.fp.cell 0 _ rfl
        clear hI9 HI9 hW c9 fr9 r9 p1 p2 hZ hrng hcv HR0 hsl HI0 HWe R1 e0 hsz h0 hysz
        have hfuel : (nxt r.data.toList).length < g := by omega
        have hnn : ws.length + 1 + (nxt r.data.toList).length ≤ 300 := by omega
        by_cases h1 : w0 = 0
        · obtain rfl : ws = [] := List.eq_nil_of_length_eq_zero (by omega)
          have HK : Hid (∀ X : World, Tb X → Calls Tryz.prog 44 #[.string x] X fun e w' => e = .returned (.int .i64 (knd (wrd r.data.toList) : Int)) ∧ Below X.heap.size X w') := fun X hX => by have := kindOf_any x X hX; rwa [hxw] at this
          have hkl := knd_lt (wrd r.data.toList)
          have HTT : Hid (∀ X : World, Tb X → X.cell? ⟨3, knd (wrd r.data.toList) * 2 + 1, none⟩ = some (.int .i64 (tks (knd (wrd r.data.toList)) : Int))) := fun X hX => hX.takes _ hkl
          obtain ⟨kn, hkn⟩ : ∃ kn, knd (wrd r.data.toList) = kn := ⟨_, rfl⟩
          obtain ⟨tn, htn⟩ : ∃ tn, tks kn = tn := ⟨_, rfl⟩
          rw [hkn] at HK hkl HTT
          rw [htn] at HTT
          have hk0 : (0 : Int) ≤ (kn : Int) := by omega
          have hk2 : (kn : Int) < 23 := by omega
          clear h1 hw0
          simp only [List.length_nil, Nat.zero_add, List.nil_append] at *
          by_cases h6 : tn = 6
          · have HE : Hid (R = ([wrd r.data.toList], nxt r.data.toList)) := by
              show R = _
              rw [← hx.out, tkn_stop g [] _ hne (.inl ⟨rfl, by rw [hkn, htn]; exact h6⟩)]; rfl
            subst h6
            clear hx htn hkn
            go_wp2_with (first
              | (go_at_call 42; refine (HWb.out _).mono ?_; rintro e w4 ⟨t2, rfl, ht2, hw4⟩; subst hw4)
              | (go_at_call 44; refine (HK.out _ HTW.out).mono ?_; rintro e w5 ⟨rfl, hb5⟩; have HI5 : Hid _ := HI.out.next hb5; have ct := HTT.out _ (HTW.out.next hb5); clear p0 pf0; obtain ⟨p0, pf0⟩ := HI5.out.fp.cell 0 _ rfl; obtain ⟨p1, pf1⟩ := HI5.out.fp.cell 1 _ rfl; obtain ⟨q0, qf0⟩ := HI5.out.fq.cell 0 _ rfl; obtain ⟨q1, qf1⟩ := HI5.out.fq.cell 1 _ rfl)
              | go_in)
            try rw [Exit.noGoto_ret]
            refine bodyPost_ret (ret_parts (HI5.out.done t2).1 rfl) rfl ?_
            refine ⟨_, t2, rfl, ?_⟩
            show _ ∧ _ ∧ _
            rw [HE.out]
            exact ⟨ht2, (HI5.out.done t2).2⟩
          · have HX : Hid (tkn g [wrd r.data.toList] (nxt r.data.toList) = R) := by
              show _ = R
              rw [← hx.out, tkn_go g [] _ hne (by
                rintro (⟨-, h⟩ | ⟨h, -⟩)
                · rw [hkn, htn] at h; exact h6 h
                · simp at h)]
              rfl
            have h6f : ((tn : Int) == 6) = false := by rw [beq_eq_false_iff_ne]; omega
            clear hx htn hkn
            go_wp2_with (first
              | (go_at_call 42; refine (HWb.out _).mono ?_; rintro e w4 ⟨t2, rfl, ht2, hw4⟩; subst hw4)
              | (go_at_call 44; refine (HK.out _ HTW.out).mono ?_; rintro e w5 ⟨rfl, hb5⟩; have HI5 : Hid _ := HI.out.next hb5; have ct := HTT.out _ (HTW.out.next hb5); clear p0 pf0; obtain ⟨p0, pf0⟩ := HI5.out.fp.cell 0 _ rfl; obtain ⟨p1, pf1⟩ := HI5.out.fp.cell 1 _ rfl; obtain ⟨q0, qf0⟩ := HI5.out.fq.cell 0 _ rfl; obtain ⟨q1, qf1⟩ := HI5.out.fq.cell 1 _ rfl)
              | go_in)
            go_roundg g
            case measure => omega
            case rel => exact ⟨t2, [wrd r.data.toList], _, rfl, by rw [ht2]; omega, by rw [ht2]; simp; omega, by show _ = _; rw [ht2]; exact HX.out, by show _ ∨ _; rw [ht2]; exact trm_head _, HI5⟩
        · have hl1 : ((w0 : Int) + 1 == 1) = false := by rw [beq_eq_false_iff_ne]; omega
          have hl1' : (((w0 + 1 : Nat) : Int) == 1) = false := by rw [beq_eq_false_iff_ne]; omega
          obtain ⟨p1, pf1⟩ := HI.out.fp.cell 1 _ rfl
          obtain ⟨q0, qf0⟩ := HI.out.fq.cell 0 _ rfl
          obtain ⟨q1, qf1⟩ := HI.out.fq.cell 1 _ rfl
          by_cases h2 : w0 = 2
          · have hw2 : ws.length = 2 := by omega
            clear hl1 hl1' h1
            subst h2
            rw [hw0] at HI hcx p0 ⊢
            by_cases hif : wrd r.data.toList = ifw
            · have HE : Hid (R = (ws ++ [wrd r.data.toList], nxt r.data.toList)) := by
                show R = _
                rw [← hx.out, tkn_stop g ws _ hne (.inr ⟨by rw [List.length_append, hw2]; rfl, hif⟩)]
              have hq : (x.toList == [105, 102]) = true := by rw [Lx.toL, hxw, hif]; rfl
              clear hx hif
              go_wp2_with (first
                | (go_at_call 42; refine (HWb.out _).mono ?_; rintro e w4 ⟨t2, rfl, ht2, hw4⟩; subst hw4)
                | go_in)
              try rw [Exit.noGoto_ret]
              refine bodyPost_ret (ret_parts (HI.out.done t2).1 rfl) rfl ?_
              refine ⟨_, t2, rfl, ?_⟩
              show _ ∧ _ ∧ _
              rw [HE.out]
              exact ⟨ht2, (HI.out.done t2).2⟩
            · have HX : Hid (tkn g (ws ++ [wrd r.data.toList]) (nxt r.data.toList) = R) := by
                show _ = R
                rw [← hx.out, tkn_go g ws _ hne (by
                  rintro (⟨h, -⟩ | ⟨-, h⟩)
                  · rw [List.length_append, hw2] at h; simp at h
                  · exact hif h)]
              have hq : (x.toList == [105, 102]) = false := by rw [Lx.toL, hxw, beq_eq_false_iff_ne]; exact hif
              clear hx hif
              go_wp2_with (first
                | (go_at_call 42; refine (HWb.out _).mono ?_; rintro e w4 ⟨t2, rfl, ht2, hw4⟩; subst hw4)
                | go_in)
              go_roundg g
              case measure => omega
              case rel => exact ⟨t2, ws ++ [wrd r.data.toList], _, rfl, by rw [ht2]; omega, by rw [ht2]; simp; omega, by show _ = _; rw [ht2]; exact HX.out, by show _ ∨ _; rw [ht2]; exact trm_head _, HI⟩
          · have hl3 : ((w0 : Int) + 1 == 3) = false := by rw [beq_eq_false_iff_ne]; omega
            have hl3' : (((w0 + 1 : Nat) : Int) == 3) = false := by rw [beq_eq_false_iff_ne]; omega
            have HX : Hid (tkn g (ws ++ [wrd r.data.toList]) (nxt r.data.toList) = R) := by
              show _ = R
              rw [← hx.out, tkn_go g ws _ hne (by
                rintro (⟨h, -⟩ | ⟨h, -⟩) <;> simp only [List.length_append, List.length_cons, List.length_nil] at h <;> omega)]
            have hnn2 : ws.length + 1 + (nxt r.data.toList).length ≤ 300 := hnn
            rw [hw0] at HI hcx p0 ⊢
            clear hx
            go_wp2_with (first
              | (go_at_call 42; refine (HWb.out _).mono ?_; rintro e w4 ⟨t2, rfl, ht2, hw4⟩; subst hw4)
              | go_in)
            go_roundg g
            case measure => omega
            case rel => exact ⟨t2, ws ++ [wrd r.data.toList], _, rfl, by rw [ht2]; omega, by rw [ht2]; simp; omega, by show _ = _; rw [ht2]; exact HX.out, by show _ ∨ _; rw [ht2]; exact trm_head _, HI⟩
end Go.Proofs.YtichbejmelkjeaaGreatDoor

namespace Go.Proofs.YtichbejmelkjeaaGreatDoor
open Go.RowKit

theorem rBlank_any (c : UInt8) (w : World) : Calls Tryz.prog 49 #[.int .u8 (c.toNat : Int)] w fun e w' => e = .returned (.bool (bl c)) ∧ w = w' := by
  have hc := UInt8.toNat_lt c
  unfold bl
  go_enter Tryz.func49, Tryz.ntmps49
  go_wp2
  all_goals (go_ret; first | exact ⟨rfl, rfl⟩ | (refine ⟨?_, rfl⟩; simp_all))

/-- The document's table of words. -/
def RW (w : World) : Prop := ∀ k, k < 23 → w.cell? ⟨4, k, none⟩ = some (.string ⟨(rws.getD k ([], 0)).1.toArray⟩)
theorem rws_ne (k : Nat) (h1 : 1 ≤ k) (hk : k < 23) : (rws.getD k ([], 0)).1 ≠ [] := by
  have h : k = 1 ∨ k = 2 ∨ k = 3 ∨ k = 4 ∨ k = 5 ∨ k = 6 ∨ k = 7 ∨ k = 8 ∨ k = 9 ∨ k = 10 ∨ k = 11 ∨ k = 12 ∨ k = 13 ∨ k = 14 ∨ k = 15 ∨ k = 16 ∨ k = 17 ∨ k = 18 ∨ k = 19 ∨ k = 20 ∨ k = 21 ∨ k = 22 := by omega
  rcases h with rfl | rfl | rfl | rfl | rfl | rfl | rfl | rfl | rfl | rfl | rfl | rfl | rfl | rfl | rfl | rfl | rfl | rfl | rfl | rfl | rfl | rfl
  all_goals decide
set_option maxRecDepth 100000 in
set_option maxHeartbeats 1000000 in
theorem rkind_any (s : ByteArray) (w : World) (hW : RW w) : Calls Tryz.prog 50 #[.string s] w fun e w' => e = .returned (.int .i64 (knd s.data.toList : Int)) ∧ w' = w := by
  have HW : Hid (RW w) := hW
  clear hW
  go_enter Tryz.func50, Tryz.ntmps50
  go_wp2
  go_loop [3] (fun i => ∃ m : Nat, 1 ≤ m ∧ m ≤ 23 ∧ i = .int .i64 (m : Int) ∧ Hid (∀ j, 1 ≤ j → j < m → ((rws.getD j ([], 0)).1 == s.data.toList) = false)) (fun i => 23 - (intOf i).toNat)
  case atStart => exact ⟨1, by omega, by omega, rfl, fun j h1 h2 => by omega⟩
  case round =>
    obtain ⟨m, hm1, hm, rfl, hn⟩ := hrel
    have hm0 : (0 : Int) ≤ (m : Int) := by omega
    by_cases hlt : m < 23
    · have hmi : (m : Int) < 23 := by omega
      have hi := HW.out m hlt
      obtain ⟨x, hx⟩ : ∃ x : ByteArray, x = ⟨(rws.getD m ([], 0)).1.toArray⟩ := ⟨_, rfl⟩
      have hxl : x.data.toList = (rws.getD m ([], 0)).1 := by rw [hx]
      rw [← hx] at hi
      have HX : Hid (x.data.toList = (rws.getD m ([], 0)).1) := hxl
      clear hx hxl
      by_cases hq : (x.toList == s.toList) = true
      · have he := Lx.toL_eq' hq
        rw [HX.out] at he
        have HK : Hid (knd s.data.toList = m) := by
          refine knd_hit _ m hlt (fun j hj => ?_) he
          by_cases hj0 : j = 0
          · subst hj0
            have := rws_ne m hm1 hlt
            rw [eq_of_beq he] at this
            cases hs : s.data.toList with
            | nil => exact absurd hs this
            | cons a b => rfl
          · exact hn.out j (by omega) hj
        clear hn HX he
        go_wp2
        go_ret
        exact ⟨by rw [HK.out]; rfl, rfl⟩
      · have hqf : (x.toList == s.toList) = false := by simpa using hq
        have HN : Hid (∀ j, 1 ≤ j → j < m + 1 → ((rws.getD j ([], 0)).1 == s.data.toList) = false) := by
          intro j h1 hj
          by_cases hjm : j < m
          · exact hn.out j h1 hjm
          · obtain rfl : j = m := by omega
            rw [← HX.out]
            exact Lx.toL_ne' hqf
        clear hn hq HX
        go_wp2
        exact ⟨⟨m + 1, by omega, by omega, by go_num, HN⟩, by simp [intOf]; omega⟩
    · obtain rfl : m = 23 := by omega
      have HK : Hid (knd s.data.toList = 0) := by
        show knd s.data.toList = 0
        by_cases h0 : s.data.toList = []
        · rw [h0]; decide
        · refine knd_miss _ (fun j hj => ?_)
          by_cases hj0 : j = 0
          · subst hj0
            cases hs : s.data.toList with
            | nil => exact absurd hs h0
            | cons a b => rfl
          · exact hn.out j (by omega) hj
      clear hn
      go_wp2
      go_ret
      exact ⟨by rw [HK.out]; rfl, rfl⟩
end Go.Proofs.YtichbejmelkjeaaGreatDoor

namespace Go.Proofs.YtichbejmelkjeaaGreatDoor
open Go.RowKit

theorem scan_inl : ∀ (f k : Nat) (l : List UInt8) (e q : Nat), Lx.scanS f k l = .inl (e, q) → e ≠ 0 := by
  intro f
  induction f with
  | zero => intro k l e q h; simp [Lx.scanS] at h; omega
  | succ f ih =>
    intro k l e q h
    match l with
    | [] => simp [Lx.scanS] at h
    | c :: r =>
      unfold Lx.scanS at h
      split at h
      · exact ih _ _ _ _ h
      · split at h
        · exact ih _ _ _ _ h
        · split at h
          · rename_i e1 he
            have := Lx.tok_err he
            cases h; omega
          · split at h
            · rename_i p hp
              cases h; exact ih _ _ _ _ hp
            · cases h
theorem scan_inr : ∀ (f k : Nat) (l : List UInt8) (L : List (Nat × Lx.Tk)), Lx.scanS f k l = .inr L → ∃ a t, L = a :: t := by
  intro f
  induction f with
  | zero => intro k l L h; simp [Lx.scanS] at h
  | succ f ih =>
    intro k l L h
    match l with
    | [] => simp [Lx.scanS] at h; exact ⟨_, _, h.symm⟩
    | c :: r =>
      unfold Lx.scanS at h
      split at h
      · exact ih _ _ _ h
      · split at h
        · exact ih _ _ _ h
        · split at h
          · cases h
          · split at h
            · cases h
            · cases h; exact ⟨_, _, rfl⟩

def tkA (x : Lx.Tk) : Value := .agg #[.int .i64 (x.kind : Int), .int .i64 0, .int .i64 (x.len : Int), .string ⟨x.text.toArray⟩, .int .i64 x.int]
theorem ret_whole {w : World} {B : Nat} {a b c d e : Value} {tm : Array Value} (hf : Full w B 113 [a, b, c, d, e]) (h2 : tm[2]?.getD undef = .pointer (some ⟨B, 0, none⟩)) :
    (results Tryz.f66 tm).run Tryz.prog w = .ok (.agg #[a, b, c, d, e]) w := by
  have c0 := (hf.cell 0 _ rfl).1
  have c1 := (hf.cell 1 _ rfl).1
  have c2 := (hf.cell 2 _ rfl).1
  have c3 := (hf.cell 3 _ rfl).1
  have c4 := (hf.cell 4 _ rfl).1
  simp [results, Tryz.results66, go_sem, h2, c0, c1, c2, c3, c4]
/-- Five cells written. -/
theorem Full.five {W : World} {B : Nat} {t : TypeId} {a b c d e : Value} (h : Full W B t [a, b, c, d, e]) (p q r s u : Value) :
    Full (((((W.setCell ⟨B, 0, none⟩ p).setCell ⟨B, 1, none⟩ q).setCell ⟨B, 2, none⟩ r).setCell ⟨B, 3, none⟩ s).setCell ⟨B, 4, none⟩ u) B t [p, q, r, s, u] :=
  Full.put1 (a := [p, q, r, s]) (Full.put1 (a := [p, q, r]) (Full.put1 (a := [p, q]) (Full.put1 (a := [p]) (Full.put1 (a := []) h p) q) r) s) u

theorem below_five {w0 w : World} {B : Nat} (h : Below B w0 w) (y0 y1 y2 y3 y4 : Value) :
    Below B w0 (((((w.setCell ⟨B, 0, none⟩ y0).setCell ⟨B, 1, none⟩ y1).setCell ⟨B, 2, none⟩ y2).setCell ⟨B, 3, none⟩ y3).setCell ⟨B, 4, none⟩ y4) :=
  ((((h.setCell (p := ⟨B, 0, none⟩) (Nat.le_refl _) _).setCell (p := ⟨B, 1, none⟩) (Nat.le_refl _) _).setCell (p := ⟨B, 2, none⟩) (Nat.le_refl _) _).setCell (p := ⟨B, 3, none⟩) (Nat.le_refl _) _).setCell (p := ⟨B, 4, none⟩) (Nat.le_refl _) _

set_option maxRecDepth 100000 in
set_option maxHeartbeats 4000000 in
theorem whole_any (s : ByteArray) (w : World) (hs : s.size ≤ 300) (hT : Tb w) :
    Calls Tryz.prog 66 #[.string s] w fun e w' => e = .returned (tkA (whl s.data.toList)) ∧ Below w.heap.size w w' := by
  obtain ⟨X1, hX1⟩ : ∃ X1, w.alloc (.cells #[.int .i64 0, .int .i64 0, .int .i64 0, .string ⟨#[]⟩, .int .i64 0] 113) = X1 := ⟨_, rfl⟩
  have b1 : Below w.heap.size w X1 := by rw [← hX1]; exact (Below.refl _ w).alloc (Nat.le_refl _) _
  have f1 : Full X1 w.heap.size 113 [.int .i64 0, .int .i64 0, .int .i64 0, .string ⟨#[]⟩, .int .i64 0] := by rw [← hX1]; exact Full.new w _ _
  have z1 : X1.heap.size = w.heap.size + 1 := by rw [← hX1]; simp
  have hsl := Lib.size_eq s
  have HS0 := Lx.scan_any s X1 (by omega) (hT.next b1).lx
  obtain ⟨R, hR⟩ : ∃ R, Lx.scanS (s.data.toList.length + 1) 0 s.data.toList = R := ⟨_, rfl⟩
  rw [hsl, hR] at HS0
  have HF : Hid (∀ w2, Below X1.heap.size X1 w2 → Full w2 w.heap.size 113 [.int .i64 0, .int .i64 0, .int .i64 0, .string ⟨#[]⟩, .int .i64 0] ∧ Below w.heap.size w w2) := fun w2 h2 => ⟨f1.next h2, b1.trans (h2.mono b1.size)⟩
  clear hT b1 f1
  cases hRc : R with
  | inl p =>
    obtain ⟨e, q⟩ := p
    rw [hRc] at HS0 hR
    have he := scan_inl _ _ _ _ _ hR
    have hef : ((e : Int) == 0) = false := by rw [beq_eq_false_iff_ne]; omega
    have HW : Hid (tkA (whl s.data.toList) = .agg #[.int .i64 0, .int .i64 0, .int .i64 0, .string ⟨#[]⟩, .int .i64 0]) := by
      show tkA (whl s.data.toList) = _
      unfold whl; rw [hR]; rfl
    have HS : Hid (Calls Tryz.prog 76 #[.string s] X1 fun x w' => x = .returned (.tuple #[.slice none 0 0, .agg #[.int .i64 (e : Int), .int .i64 (q : Int)]]) ∧ Below X1.heap.size X1 w') := HS0
    clear HS0 hR hRc hsl
    go_enter Tryz.func66, Tryz.ntmps66
    go_wp2_with fail
    refine HS.out.mono ?_
    rintro x w2 ⟨rfl, hb2⟩
    obtain ⟨W3, hW3⟩ : ∃ W3, w2.alloc (.cells #[.int .i64 (e : Int), .int .i64 (q : Int)] 126) = W3 := ⟨_, rfl⟩
    have b3 : Below X1.heap.size X1 W3 := by rw [← hW3]; exact hb2.alloc hb2.size _
    have F3 : Hid _ := HF.out W3 b3
    have f3 : Full W3 w2.heap.size 126 [.int .i64 (e : Int), .int .i64 (q : Int)] := by rw [← hW3]; exact Full.new w2 _ _
    have d0 := (f3.cell 0 _ rfl).1
    obtain ⟨c0, k0⟩ := F3.out.1.cell 0 _ rfl
    obtain ⟨c1, k1⟩ := F3.out.1.cell 1 _ rfl
    obtain ⟨c2, k2⟩ := F3.out.1.cell 2 _ rfl
    obtain ⟨c3, k3⟩ := F3.out.1.cell 3 _ rfl
    obtain ⟨c4, k4⟩ := F3.out.1.cell 4 _ rfl
    clear b3 f3 hb2 HF
    go_wp2
    refine bodyPost_ret (ret_whole (F3.out.1.five _ _ _ _ _) rfl) rfl ?_
    exact ⟨congrArg Ending.returned HW.out.symm, below_five F3.out.2 _ _ _ _ _⟩
  | inr L =>
    rw [hRc] at HS0 hR
    obtain ⟨⟨k, x⟩, t, rfl⟩ := scan_inr _ _ _ _ hR
    have hwh : whl s.data.toList = if k = 0 ∧ x.len = s.data.toList.length then x else tk0 := by unfold whl; rw [hR]
    obtain ⟨kd, ln, tx, it⟩ := x
    simp only at hwh
    obtain ⟨tb, htb⟩ : ∃ tb : ByteArray, tb = ⟨tx.toArray⟩ := ⟨_, rfl⟩
    have HS : Hid (Calls Tryz.prog 76 #[.string s] X1 fun y w' => ∃ q n c, y = .returned (.tuple #[.slice (some ⟨q, 0, none⟩) n c, .agg #[.int .i64 0, .int .i64 0]]) ∧ 0 < n ∧ n ≤ c ∧ Hid (w'.cell? ⟨q, 0, none⟩ = some (.int .i64 (kd : Int)) ∧ w'.cell? ⟨q, 1, none⟩ = some (.int .i64 (k : Int)) ∧ w'.cell? ⟨q, 2, none⟩ = some (.int .i64 ((k : Int) + (ln : Int))) ∧ w'.cell? ⟨q, 3, none⟩ = some (.string tb) ∧ w'.cell? ⟨q, 4, none⟩ = some (.int .i64 it)) ∧ Below X1.heap.size X1 w') := by
      refine Calls.mono HS0 ?_
      rintro y w' ⟨v, rfl, ho, hb⟩
      obtain ⟨q, cap, rfl, hc, hr⟩ := own_slice ho
      obtain ⟨g, rfl, hr2⟩ := hr (by simp)
      have at_ : ∀ j u, (Lx.toksV ((k, ⟨kd, ln, tx, it⟩) :: t))[j]? = some u → w'.cell? ⟨g, j, none⟩ = some u := fun j u hu => by have := hr2 j u hu; rwa [Nat.zero_add] at this
      refine ⟨g, _, cap, rfl, by simp, hc, ⟨at_ 0 _ rfl, at_ 1 _ rfl, at_ 2 _ rfl, ?_, at_ 4 _ rfl⟩, hb⟩
      rw [htb]; exact at_ 3 _ rfl
    have HWy : Hid (k = 0 → ln = s.size → tkA (whl s.data.toList) = .agg #[.int .i64 (kd : Int), .int .i64 0, .int .i64 (ln : Int), .string tb, .int .i64 it]) := fun h1 h2 => by
      rw [hwh, if_pos ⟨h1, by omega⟩, htb]; rfl
    have HWn : Hid (¬ (k = 0 ∧ ln = s.size) → tkA (whl s.data.toList) = .agg #[.int .i64 0, .int .i64 0, .int .i64 0, .string ⟨#[]⟩, .int .i64 0]) := fun h1 => by
      rw [hwh, if_neg (by rintro ⟨h2, h3⟩; exact h1 ⟨h2, by omega⟩)]; rfl
    clear HS0 hR hRc hwh htb
    have hlo : (s.size : Int) ≤ 300 := by omega
    clear hsl
    by_cases hk : k = 0
    · subst hk
      by_cases hl : ln = s.size
      · have HW : Hid _ := HWy.out rfl hl
        subst hl
        clear HWy HWn
        go_enter Tryz.func66, Tryz.ntmps66
        go_wp2_with fail
        refine HS.out.mono ?_
        rintro y w2 ⟨q, n, cp, rfl, hn0, hnc, hcs, hb2⟩
        obtain ⟨W3, hW3⟩ : ∃ W3, w2.alloc (.cells #[.int .i64 0, .int .i64 0] 126) = W3 := ⟨_, rfl⟩
        have n3 : Below w2.heap.size w2 W3 := by rw [← hW3]; exact (Below.refl _ w2).alloc (Nat.le_refl _) _
        have F3 : Hid _ := HF.out W3 (hb2.trans (n3.mono hb2.size))
        have f3 : Full W3 w2.heap.size 126 [.int .i64 0, .int .i64 0] := by rw [← hW3]; exact Full.new w2 _ _
        have d0 := (f3.cell 0 _ rfl).1
        obtain ⟨x0, x1, x2, x3, x4⟩ := hcs.out
        have up : ∀ j u, w2.cell? ⟨q, j, none⟩ = some u → W3.cell? ⟨q, j, none⟩ = some u := fun j u hu => (n3.cell (p := ⟨q, j, none⟩) (World.block_lt_of_cell? w2 _ hu)).trans hu
        have y0 := up _ _ x0
        have y1 := up _ _ x1
        have y2 := up _ _ x2
        have y3 := up _ _ x3
        have y4 := up _ _ x4
        clear x0 x1 x2 x3 x4 up hcs
        obtain ⟨c0, k0⟩ := F3.out.1.cell 0 _ rfl
        obtain ⟨c1, k1⟩ := F3.out.1.cell 1 _ rfl
        obtain ⟨c2, k2⟩ := F3.out.1.cell 2 _ rfl
        obtain ⟨c3, k3⟩ := F3.out.1.cell 3 _ rfl
        obtain ⟨c4, k4⟩ := F3.out.1.cell 4 _ rfl
        clear n3 f3 hb2 HF
        subst hW3
        go_wp2
        refine bodyPost_ret (ret_whole (F3.out.1.five _ _ _ _ _) rfl) rfl ?_
        exact ⟨congrArg Ending.returned HW.out.symm, below_five F3.out.2 _ _ _ _ _⟩
      · have HW : Hid _ := HWn.out (fun h => hl h.2)
        have hlf : ((ln : Int) == (s.size : Int)) = false := by rw [beq_eq_false_iff_ne]; omega
        clear HWy HWn
        go_enter Tryz.func66, Tryz.ntmps66
        go_wp2_with fail
        refine HS.out.mono ?_
        rintro y w2 ⟨q, n, cp, rfl, hn0, hnc, hcs, hb2⟩
        obtain ⟨W3, hW3⟩ : ∃ W3, w2.alloc (.cells #[.int .i64 0, .int .i64 0] 126) = W3 := ⟨_, rfl⟩
        have n3 : Below w2.heap.size w2 W3 := by rw [← hW3]; exact (Below.refl _ w2).alloc (Nat.le_refl _) _
        have F3 : Hid _ := HF.out W3 (hb2.trans (n3.mono hb2.size))
        have f3 : Full W3 w2.heap.size 126 [.int .i64 0, .int .i64 0] := by rw [← hW3]; exact Full.new w2 _ _
        have d0 := (f3.cell 0 _ rfl).1
        obtain ⟨x0, x1, x2, x3, x4⟩ := hcs.out
        have up : ∀ j u, w2.cell? ⟨q, j, none⟩ = some u → W3.cell? ⟨q, j, none⟩ = some u := fun j u hu => (n3.cell (p := ⟨q, j, none⟩) (World.block_lt_of_cell? w2 _ hu)).trans hu
        have y0 := up _ _ x0
        have y1 := up _ _ x1
        have y2 := up _ _ x2
        have y3 := up _ _ x3
        have y4 := up _ _ x4
        clear x0 x1 x2 x3 x4 up hcs
        obtain ⟨c0, k0⟩ := F3.out.1.cell 0 _ rfl
        obtain ⟨c1, k1⟩ := F3.out.1.cell 1 _ rfl
        obtain ⟨c2, k2⟩ := F3.out.1.cell 2 _ rfl
        obtain ⟨c3, k3⟩ := F3.out.1.cell 3 _ rfl
        obtain ⟨c4, k4⟩ := F3.out.1.cell 4 _ rfl
        clear n3 f3 hb2 HF
        subst hW3
        go_wp2
        refine bodyPost_ret (ret_whole (F3.out.1.five _ _ _ _ _) rfl) rfl ?_
        exact ⟨congrArg Ending.returned HW.out.symm, below_five F3.out.2 _ _ _ _ _⟩
    · have HW : Hid _ := HWn.out (fun h => hk h.1)
      have hkf : ((k : Int) == 0) = false := by rw [beq_eq_false_iff_ne]; omega
      clear HWy HWn
      go_enter Tryz.func66, Tryz.ntmps66
      go_wp2_with fail
      refine HS.out.mono ?_
      rintro y w2 ⟨q, n, cp, rfl, hn0, hnc, hcs, hb2⟩
      obtain ⟨W3, hW3⟩ : ∃ W3, w2.alloc (.cells #[.int .i64 0, .int .i64 0] 126) = W3 := ⟨_, rfl⟩
      have n3 : Below w2.heap.size w2 W3 := by rw [← hW3]; exact (Below.refl _ w2).alloc (Nat.le_refl _) _
      have F3 : Hid _ := HF.out W3 (hb2.trans (n3.mono hb2.size))
      have f3 : Full W3 w2.heap.size 126 [.int .i64 0, .int .i64 0] := by rw [← hW3]; exact Full.new w2 _ _
      have d0 := (f3.cell 0 _ rfl).1
      obtain ⟨x0, x1, x2, x3, x4⟩ := hcs.out
      have up : ∀ j u, w2.cell? ⟨q, j, none⟩ = some u → W3.cell? ⟨q, j, none⟩ = some u := fun j u hu => (n3.cell (p := ⟨q, j, none⟩) (World.block_lt_of_cell? w2 _ hu)).trans hu
      have y0 := up _ _ x0
      have y1 := up _ _ x1
      have y2 := up _ _ x2
      have y3 := up _ _ x3
      have y4 := up _ _ x4
      clear x0 x1 x2 x3 x4 up hcs
      obtain ⟨c0, k0⟩ := F3.out.1.cell 0 _ rfl
      obtain ⟨c1, k1⟩ := F3.out.1.cell 1 _ rfl
      obtain ⟨c2, k2⟩ := F3.out.1.cell 2 _ rfl
      obtain ⟨c3, k3⟩ := F3.out.1.cell 3 _ rfl
      obtain ⟨c4, k4⟩ := F3.out.1.cell 4 _ rfl
      clear n3 f3 hb2 HF
      subst hW3
      go_wp2
      refine bodyPost_ret (ret_whole (F3.out.1.five _ _ _ _ _) rfl) rfl ?_
      exact ⟨congrArg Ending.returned HW.out.symm, below_five F3.out.2 _ _ _ _ _⟩
end Go.Proofs.YtichbejmelkjeaaGreatDoor

namespace Go.Proofs.YtichbejmelkjeaaGreatDoor
open Go.RowKit

set_option maxRecDepth 100000 in
set_option maxHeartbeats 2000000 in
theorem number_any (s : ByteArray) (w : World) (hs : s.size ≤ 300) (hT : Tb w) :
    Calls Tryz.prog 47 #[.string s] w fun e w' => e = .returned (.tuple #[.int .i64 (numO s.data.toList).1, .bool (numO s.data.toList).2]) ∧ Below w.heap.size w w' := by
  have HC : Hid (Calls Tryz.prog 66 #[.string s] w fun e w' => e = .returned (tkA (whl s.data.toList)) ∧ Below w.heap.size w w') := whole_any s w hs hT
  unfold numO
  generalize whl s.data.toList = x at HC ⊢
  obtain ⟨kd, ln, tx, it⟩ := x
  unfold tkA at HC
  simp only at HC ⊢
  generalize (⟨tx.toArray⟩ : ByteArray) = tb at HC
  have hb : (kd == 2) = ((kd : Int) == 2) := by
    by_cases h : kd = 2
    · subst h; rfl
    · rw [beq_eq_false_iff_ne.2 h, beq_eq_false_iff_ne.2 (by omega)]
  rw [hb]
  clear hb hT
  go_enter Tryz.func47, Tryz.ntmps47
  go_wp2_with fail
  refine HC.out.mono ?_
  rintro e w2 ⟨rfl, hb2⟩
  obtain ⟨W3, hW3⟩ : ∃ W3, w2.alloc (.cells #[.int .i64 (kd : Int), .int .i64 0, .int .i64 (ln : Int), .string tb, .int .i64 it] 113) = W3 := ⟨_, rfl⟩
  have b3 : Below w.heap.size w W3 := by rw [← hW3]; exact hb2.alloc hb2.size _
  have f3 : Full W3 w2.heap.size 113 [.int .i64 (kd : Int), .int .i64 0, .int .i64 (ln : Int), .string tb, .int .i64 it] := by rw [← hW3]; exact Full.new w2 _ _
  have d0 := (f3.cell 0 _ rfl).1
  have d4 := (f3.cell 4 _ rfl).1
  have g0 : W3.drew.cell? ⟨w2.heap.size, 0, none⟩ = some (.int .i64 (kd : Int)) := d0
  have g4 : W3.drew.cell? ⟨w2.heap.size, 4, none⟩ = some (.int .i64 it) := d4
  go_wp2_with fail
  go_region_law (fail)
  all_goals
    go_wp2
    go_ret2
    exact ⟨rfl, b3.drew⟩
end Go.Proofs.YtichbejmelkjeaaGreatDoor

namespace Go.Proofs.YtichbejmelkjeaaGreatDoor
open Go.RowKit

def preB (s p : ByteArray) : Bool := decide (p.size ≤ s.size) && ((s.extract 0 p.size).toList == p.toList)

set_option maxHeartbeats 1000000 in
theorem hasPrefix_any (s p : ByteArray) (w : World) : Calls Tryz.prog 89 #[.string s, .string p] w fun e w' => e = .returned (.bool (preB s p)) ∧ w' = w := by
  unfold preB
  go_enter Tryz.func89, Tryz.ntmps89
  go_wp2
  · rename_i h
    go_ret
    refine ⟨?_, rfl⟩
    show Ending.returned (Value.bool ((s.extract 0 p.size).toList == p.toList)) = _
    simp [h]
  · rename_i h
    go_ret
    refine ⟨?_, rfl⟩
    show Ending.returned (Value.bool false) = _
    simp [h]
set_option maxHeartbeats 1000000 in
theorem cutPrefixL_any (s p : ByteArray) (w : World) : Calls Tryz.prog 77 #[.string s, .string p] w fun e w' => e = .returned (.tuple #[.string (if preB s p then s.extract p.size s.size else s), .bool (preB s p)]) ∧ w' = w := by
  cases h : preB s p with
  | false =>
    go_enter Tryz.func77, Tryz.ntmps77
    go_wp2_with (first | (go_at_call 89; refine (hasPrefix_any s p _).mono ?_; rintro e w1 ⟨rfl, hw⟩; rw [hw, h]) | go_in)
    go_ret2
    exact ⟨rfl, rfl⟩
  | true =>
    have h1 : p.size ≤ s.size := by unfold preB at h; simp at h; exact h.1
    go_enter Tryz.func77, Tryz.ntmps77
    go_wp2_with (first | (go_at_call 89; refine (hasPrefix_any s p _).mono ?_; rintro e w1 ⟨rfl, hw⟩; rw [hw, h]) | go_in)
    go_ret2
    exact ⟨rfl, rfl⟩
set_option maxHeartbeats 1000000 in
theorem cutPrefix_any (s p : ByteArray) (w : World) : Calls Tryz.prog 67 #[.string s, .string p] w fun e w' => e = .returned (.tuple #[.string (if preB s p then s.extract p.size s.size else s), .bool (preB s p)]) ∧ w' = w := by
  go_enter Tryz.func67, Tryz.ntmps67
  go_wp2_with (first | (go_at_call 77; refine (cutPrefixL_any s p _).mono ?_; rintro e w1 ⟨rfl, hw⟩; rw [hw]) | go_in)
  all_goals go_ret2
  all_goals exact ⟨rfl, rfl⟩
theorem w64_eq (x : Int) : wrap64 x = IntKind.i64.wrap x := by
  first | rfl | (rw [IntKind.wrap_i64]; rfl) | (rw [IntKind.wrap_i64]; unfold wrap64; omega) | (simp [IntKind.wrap_i64, wrap64])
/-- A minus ahead is cut off. -/
theorem cut_minus (s : ByteArray) (w : World) : Calls Tryz.prog 67 #[.string s, .string ⟨#[45]⟩] w fun e w' => ∃ t b, e = .returned (.tuple #[.string t, .bool b]) ∧ Hid ((b = true ∧ s.data.toList = 45 :: t.data.toList) ∨ (b = false ∧ t = s ∧ ∀ r, s.data.toList ≠ 45 :: r)) ∧ w' = w := by
  refine (cutPrefix_any s ⟨#[45]⟩ w).mono ?_
  rintro e w' ⟨rfl, rfl⟩
  refine ⟨_, _, rfl, ?_, rfl⟩
  have hsz := Lib.size_eq s
  have hp1 : (⟨#[45]⟩ : ByteArray).size = 1 := rfl
  show (preB s ⟨#[45]⟩ = true ∧ _) ∨ (preB s ⟨#[45]⟩ = false ∧ _)
  cases hl : s.data.toList with
  | nil =>
    right
    have hp : preB s ⟨#[45]⟩ = false := by
      unfold preB; rw [hp1]; rw [hl] at hsz; simp at hsz; simp [hsz]
    rw [hp]
    exact ⟨rfl, if_neg (by simp), fun r h => by cases h⟩
  | cons c q =>
    have hs1 : 1 ≤ s.size := by rw [hsz, hl]; simp
    have hex : (s.extract 0 1).toList = [c] := by rw [Lx.toL, Lib.extract_data, hl]; simp
    have hpl : (⟨#[45]⟩ : ByteArray).toList = [45] := by rw [Lx.toL]
    by_cases hc : c = 45
    · left
      have hp : preB s ⟨#[45]⟩ = true := by
        unfold preB; rw [hp1, hex, hpl, hc]; simp [hs1]
      rw [hp]
      refine ⟨rfl, ?_⟩
      rw [if_pos rfl, hp1, Lib.extract_data, hl, hc]
      simp only [List.drop_succ_cons, List.drop_zero]
      rw [List.take_of_length_le (by rw [hsz, hl]; simp)]
    · right
      have hp : preB s ⟨#[45]⟩ = false := by
        unfold preB; rw [hp1, hex, hpl]; simp [hc]
      rw [hp]
      exact ⟨rfl, if_neg (by simp), fun r h => by cases h; exact hc rfl⟩

set_option maxRecDepth 100000 in
set_option maxHeartbeats 2000000 in
theorem position_any (s : ByteArray) (w : World) (hs : s.size ≤ 300) (hT : Tb w) :
    Calls Tryz.prog 48 #[.string s] w fun e w' => e = .returned (.tuple #[.int .i64 (posO s.data.toList).1, .bool (posO s.data.toList).2]) ∧ Below w.heap.size w w' := by
  have hsz := Lib.size_eq s
  have HC : Hid (∀ t : ByteArray, t.size ≤ 300 → Calls Tryz.prog 47 #[.string t] w fun e w' => e = .returned (.tuple #[.int .i64 (numO t.data.toList).1, .bool (numO t.data.toList).2]) ∧ Below w.heap.size w w') := fun t ht => number_any t w ht hT
  have HM := cut_minus s w
  clear hT
  go_enter Tryz.func48, Tryz.ntmps48
  go_wp2_with fail
  refine HM.mono ?_
  rintro e w1 ⟨t, b, rfl, hq, hw1⟩
  subst hw1
  clear HM
  rcases hq.out with ⟨rfl, hl⟩ | ⟨rfl, rfl, hl⟩
  · have ht : t.size ≤ 300 := by have h2 := congrArg List.length hl; simp only [List.length_cons] at h2; rw [Lib.size_eq]; omega
    have HN := HC.out t ht
    have HP : Hid (posO s.data.toList = (IntKind.i64.wrap (-(numO t.data.toList).1), (numO t.data.toList).2 && decide (1 ≤ (numO t.data.toList).1))) := by
      show posO s.data.toList = _
      rw [hl]; rfl
    clear HC hq hl hsz ht hs
    generalize numO t.data.toList = N at HN HP
    obtain ⟨n, f⟩ := N
    go_wp2_with fail
    refine HN.mono ?_
    rintro e w2 ⟨rfl, hb2⟩
    clear HN
    cases f
    · go_wp2
      go_ret2
      refine ⟨?_, hb2⟩
      rw [HP.out, ← w64_eq]
      rfl
    · by_cases h1 : 1 ≤ n
      · have h1d : decide (1 ≤ n) = true := decide_eq_true h1
        go_wp2
        go_ret2
        refine ⟨?_, hb2⟩
        rw [HP.out, ← w64_eq]
        simp only [h1d]
        rfl
      · have h1d : decide (1 ≤ n) = false := decide_eq_false h1
        go_wp2
        go_ret2
        refine ⟨?_, hb2⟩
        rw [HP.out, ← w64_eq]
        simp only [h1d]
        rfl
  · have HN := HC.out t hs
    have HP : Hid (posO t.data.toList = numO t.data.toList) := by
      show posO t.data.toList = _
      unfold posO
      split
      · rename_i r h; exact absurd h (hl r)
      · rfl
    clear HC hq hl hsz hs
    generalize numO t.data.toList = N at HN HP
    obtain ⟨n, f⟩ := N
    go_wp2_with fail
    refine HN.mono ?_
    rintro e w2 ⟨rfl, hb2⟩
    clear HN
    go_wp2
    go_ret2
    exact ⟨by rw [HP.out]; rfl, hb2⟩
end Go.Proofs.YtichbejmelkjeaaGreatDoor

namespace Go.Proofs.YtichbejmelkjeaaGreatDoor
open Go.RowKit

/-- Words that lie in memory. -/
structure WsA (w : World) (q : Option Addr) (cap : Nat) (ws : List (List UInt8)) : Prop where
  le : ws.length ≤ cap
  at_ : 0 < ws.length → ∃ g, q = some ⟨g, 0, none⟩ ∧ w.rangeAt g 0 (ws.map sV)
  sm : ∀ x ∈ ws, x.length ≤ 300
theorem WsA.next {w w' : World} {q : Option Addr} {cap : Nat} {ws : List (List UInt8)} (h : WsA w q cap ws) (hb : Below w.heap.size w w') : WsA w' q cap ws := by
  refine ⟨h.le, fun hl => ?_, h.sm⟩
  obtain ⟨g, hq, hr⟩ := h.at_ hl
  exact ⟨g, hq, fun j v hv => by have := hr j v hv; exact (hb.cell (p := ⟨g, 0 + j, none⟩) (World.block_lt_of_cell? w _ this)).trans this⟩
theorem WsA.cell {w : World} {g cap : Nat} {ws : List (List UInt8)} (h : WsA w (some ⟨g, 0, none⟩) cap ws) (j : Nat) (x : ByteArray) (hx : ws[j]? = some x.data.toList) : w.cell? ⟨g, j, none⟩ = some (.string x) := by
  have hl : 0 < ws.length := by have := (List.getElem?_eq_some_iff.1 hx).1; omega
  obtain ⟨g', hq, hr⟩ := h.at_ hl
  cases hq
  have := hr j (.string x) (by rw [List.getElem?_map, hx]; rfl)
  rwa [Nat.zero_add] at this

/-- What one tells. -/
def oneO (F : List UInt8 → Int × Bool) (ws : List (List UInt8)) : Int × Bool := match ws with | [_, w1] => F w1 | _ => (0, false)
theorem one_two (F : List UInt8 → Int × Bool) {ws : List (List UInt8)} (h : ws.length = 2) : ∃ a b, ws = [a, b] ∧ oneO F ws = F b := by
  match ws, h with
  | [a, b], _ => exact ⟨a, b, rfl, rfl⟩
theorem one_not (F : List UInt8 → Int × Bool) {ws : List (List UInt8)} (h : ws.length ≠ 2) : oneO F ws = (0, false) := by
  match ws, h with
  | [], _ => rfl
  | [_], _ => rfl
  | [_, _], h => exact absurd rfl h
  | _ :: _ :: _ :: _, _ => rfl

set_option maxRecDepth 100000 in
set_option maxHeartbeats 2000000 in
theorem one_any (F : List UInt8 → Int × Bool) (f : FuncId) (hf : f = 47 ∨ f = 48) (hF : ∀ (s : ByteArray) (w : World), s.size ≤ 300 → Tb w → Calls Tryz.prog f #[.string s] w fun e w' => e = .returned (.tuple #[.int .i64 (F s.data.toList).1, .bool (F s.data.toList).2]) ∧ Below w.heap.size w w')
    {q : Option Addr} {cap : Nat} {ws : List (List UInt8)} {w : World} (hA : WsA w q cap ws) (x : ByteArray) (hT : Tb w) :
    Calls Tryz.prog 46 #[.agg #[.slice q ws.length cap, .string x], .func (.func f) #[] #[]] w fun e w' => e = .returned (.tuple #[.int .i64 (oneO F ws).1, .bool (oneO F ws).2]) ∧ Below w.heap.size w w' := by
  obtain ⟨X, hX⟩ : ∃ X, w.alloc (.cells #[.slice q ws.length cap, .string x] 67) = X := ⟨_, rfl⟩
  have b1 : Below w.heap.size w X := by rw [← hX]; exact (Below.refl _ w).alloc (Nat.le_refl _) _
  have f1 : Full X w.heap.size 67 [.slice q ws.length cap, .string x] := by rw [← hX]; exact Full.new w _ _
  have c0 := (f1.cell 0 _ rfl).1
  have hAX := hA.next b1
  have hTX := hT.next b1
  by_cases h2 : ws.length = 2
  · obtain ⟨a, b, rfl, hF2⟩ := one_two F h2
    obtain ⟨g, rfl, -⟩ := hA.at_ (by simp)
    obtain ⟨y, hy⟩ : ∃ y : ByteArray, y.data.toList = b := ⟨⟨b.toArray⟩, rfl⟩
    have c1 : X.cell? ⟨g, 1, none⟩ = some (.string y) := hAX.cell 1 y (by simp [hy])
    have HC := hF y X (by rw [Lib.size_eq, hy]; exact hA.sm b (by simp)) hTX
    have hle := hA.le
    rw [hy, ← hF2] at HC
    generalize oneO F [a, b] = N at HC ⊢
    obtain ⟨n, fl⟩ := N
    simp only [List.length_cons, List.length_nil, Nat.zero_add, Nat.reduceAdd] at c0 hX hle ⊢
    clear hA hAX hTX hT f1 hF2 hy h2 hF
    rcases hf with rfl | rfl
    all_goals
      go_enter Tryz.func46, Tryz.ntmps46
      go_wp2_with fail
      refine HC.mono ?_
      rintro e w2 ⟨rfl, hb2⟩
      clear HC
      go_wp2
      go_ret2
      exact ⟨rfl, b1.trans (hb2.mono b1.size)⟩
  · have hN := one_not F h2
    rw [hN]
    have hl : ((ws.length : Int) == 2) = false := by rw [beq_eq_false_iff_ne]; omega
    clear hA hAX hTX hT f1 hN hF hf
    go_enter Tryz.func46, Tryz.ntmps46
    go_wp2
    go_ret2
    exact ⟨rfl, b1⟩
end Go.Proofs.YtichbejmelkjeaaGreatDoor

namespace Go.Proofs.YtichbejmelkjeaaGreatDoor
open Go.RowKit

theorem callClone (a : Value) (w : World) : (callFunc 31 #[a]).run Tryz.prog w = .ok (.enter 31 #[a]) w := by kernel_rfl
def pntW (t : Nat) (ws : List (List UInt8)) (e : List UInt8) : Option Cm := if ws.length = 2 ∨ (ws.length = 3 ∧ e ≠ []) then pntO t (ws.getD 1 []) e else none
theorem ret_point {w : World} {B : Nat} {a b c d e x : Value} {tm : Array Value} (hf : Full w B 49 [a, b, c, d, e]) (h4 : tm[4]?.getD undef = .pointer (some ⟨B, 0, none⟩)) (h5 : tm[5]?.getD undef = x) :
    (results Tryz.f45 tm).run Tryz.prog w = .ok (.tuple #[.agg #[a, b, c, d, e], x]) w := by
  have c0 := (hf.cell 0 _ rfl).1
  have c1 := (hf.cell 1 _ rfl).1
  have c2 := (hf.cell 2 _ rfl).1
  have c3 := (hf.cell 3 _ rfl).1
  have c4 := (hf.cell 4 _ rfl).1
  simp [results, Tryz.results45, go_sem, h4, h5, c0, c1, c2, c3, c4]
theorem Full.cell5 {W : World} {B : Nat} {t : TypeId} {a b c d e : Value} (h : Full W B t [a, b, c, d, e]) : (W.cell? ⟨B, 0, none⟩ = some a ∧ W.frozen? ⟨B, 0, none⟩ = false) ∧ (W.cell? ⟨B, 1, none⟩ = some b ∧ W.frozen? ⟨B, 1, none⟩ = false) ∧ (W.cell? ⟨B, 2, none⟩ = some c ∧ W.frozen? ⟨B, 2, none⟩ = false) ∧ (W.cell? ⟨B, 3, none⟩ = some d ∧ W.frozen? ⟨B, 3, none⟩ = false) ∧ (W.cell? ⟨B, 4, none⟩ = some e ∧ W.frozen? ⟨B, 4, none⟩ = false) :=
  ⟨h.cell 0 _ rfl, h.cell 1 _ rfl, h.cell 2 _ rfl, h.cell 3 _ rfl, h.cell 4 _ rfl⟩
theorem below_fiveB {w0 w : World} {A B : Nat} (h : Below A w0 w) (hA : A ≤ B) (y0 y1 y2 y3 y4 : Value) :
    Below A w0 (((((w.setCell ⟨B, 0, none⟩ y0).setCell ⟨B, 1, none⟩ y1).setCell ⟨B, 2, none⟩ y2).setCell ⟨B, 3, none⟩ y3).setCell ⟨B, 4, none⟩ y4) :=
  ((((h.setCell (p := ⟨B, 0, none⟩) hA _).setCell (p := ⟨B, 1, none⟩) hA _).setCell (p := ⟨B, 2, none⟩) hA _).setCell (p := ⟨B, 3, none⟩) hA _).setCell (p := ⟨B, 4, none⟩) hA _

/-- What point answers. -/
def PtP (w : World) (t : Nat) (ws : List (List UInt8)) (x : ByteArray) (e : Ending) (w' : World) : Prop :=
  ∃ (p1 p2 : Int) (p3 p4 : ByteArray) (b : Bool), e = .returned (.tuple #[.agg #[.int .i64 p1, .int .i64 p2, .string p3, .string p4, .bool false], .bool b]) ∧ Hid (((b = true ∧ pntW t ws x.data.toList = some ⟨0, p1, p2, p3.data.toList, p4.data.toList, false, 0, []⟩) ∨ (b = false ∧ pntW t ws x.data.toList = none)) ∧ Below w.heap.size w w')
set_option maxRecDepth 100000 in
set_option maxHeartbeats 4000000 in
theorem point_any (t : Nat) {q : Option Addr} {cap : Nat} {ws : List (List UInt8)} {w : World} (hA : WsA w q cap ws) (x : ByteArray) (hxs : x.size ≤ 300) (hT : Tb w) :
    Calls Tryz.prog 45 #[.agg #[.slice q ws.length cap, .string x], .int .i64 (t : Int)] w (PtP w t ws x) := by
  obtain ⟨X1, hX1⟩ : ∃ X1, w.alloc (.cells #[.slice q ws.length cap, .string x] 67) = X1 := ⟨_, rfl⟩
  have b1 : Below w.heap.size w X1 := by rw [← hX1]; exact (Below.refl _ w).alloc (Nat.le_refl _) _
  have f1 : Full X1 w.heap.size 67 [.slice q ws.length cap, .string x] := by rw [← hX1]; exact Full.new w _ _
  have z1 : X1.heap.size = w.heap.size + 1 := by rw [← hX1]; simp
  obtain ⟨X2, hX2⟩ : ∃ X2, X1.alloc (.cells #[.int .i64 0, .int .i64 0, .string ⟨#[]⟩, .string ⟨#[]⟩, .bool false] 49) = X2 := ⟨_, rfl⟩
  have n2 : Below X1.heap.size X1 X2 := by rw [← hX2]; exact (Below.refl _ X1).alloc (Nat.le_refl _) _
  have b2 : Below w.heap.size w X2 := b1.trans (n2.mono b1.size)
  have f2 : Full X2 (w.heap.size + 1) 49 [.int .i64 0, .int .i64 0, .string ⟨#[]⟩, .string ⟨#[]⟩, .bool false] := by rw [← hX2, ← z1]; exact Full.new X1 _ _
  have f12 := f1.next n2
  have hAX := hA.next b2
  have hTX := hT.next b2
  have c0 := (f12.cell 0 _ rfl).1
  have c1 := (f12.cell 1 _ rfl).1
  have hle := hA.le
  have hsz := Lib.size_eq x
  obtain ⟨⟨g0, k0⟩, ⟨g1, k1⟩, ⟨g2, k2⟩, ⟨g3, k3⟩, ⟨g4, k4⟩⟩ := f2.cell5
  have HNo : ∀ W, Full W (w.heap.size + 1) 49 [.int .i64 0, .int .i64 0, .string ⟨#[]⟩, .string ⟨#[]⟩, .bool false] → Below w.heap.size w W → pntW t ws x.data.toList = none → Hid (Full (((((W.setCell ⟨w.heap.size + 1, 0, none⟩ (.int .i64 0)).setCell ⟨w.heap.size + 1, 1, none⟩ (.int .i64 0)).setCell ⟨w.heap.size + 1, 2, none⟩ (.string ⟨#[]⟩)).setCell ⟨w.heap.size + 1, 3, none⟩ (.string ⟨#[]⟩)).setCell ⟨w.heap.size + 1, 4, none⟩ (.bool false)) (w.heap.size + 1) 49 [.int .i64 0, .int .i64 0, .string ⟨#[]⟩, .string ⟨#[]⟩, .bool false] ∧ pntW t ws x.data.toList = none ∧ Below w.heap.size w (((((W.setCell ⟨w.heap.size + 1, 0, none⟩ (.int .i64 0)).setCell ⟨w.heap.size + 1, 1, none⟩ (.int .i64 0)).setCell ⟨w.heap.size + 1, 2, none⟩ (.string ⟨#[]⟩)).setCell ⟨w.heap.size + 1, 3, none⟩ (.string ⟨#[]⟩)).setCell ⟨w.heap.size + 1, 4, none⟩ (.bool false))) := fun W hW hb hn => ⟨hW.five _ _ _ _ _, hn, below_fiveB hb (by omega) _ _ _ _ _⟩
  by_cases hok : ws.length = 2 ∨ (ws.length = 3 ∧ x.data.toList ≠ [])
  · have hw2 : 2 ≤ ws.length := by omega
    obtain ⟨g, rfl, -⟩ := hA.at_ (by omega)
    obtain ⟨y, hy⟩ : ∃ y : ByteArray, y.data.toList = ws.getD 1 [] := ⟨⟨(ws.getD 1 []).toArray⟩, rfl⟩
    have hy1 : ws[1]? = some y.data.toList := by rw [hy, List.getD_eq_getElem?_getD, List.getElem?_eq_getElem (by omega)]; rfl
    have d1 : X2.cell? ⟨g, 1, none⟩ = some (.string y) := hAX.cell 1 y hy1
    have HC := whole_any y X2 (by rw [Lib.size_eq]; exact hA.sm _ (List.mem_of_getElem? hy1)) hTX
    have hP0 : pntW t ws x.data.toList = pntO t y.data.toList x.data.toList := by unfold pntW; rw [if_pos hok, hy]
    unfold pntO at hP0
    unfold tkA at HC
    generalize whl y.data.toList = tok at HC hP0
    obtain ⟨kd, ln, tx, it⟩ := tok
    obtain ⟨tb, htb⟩ : ∃ tb : ByteArray, (⟨tx.toArray⟩ : ByteArray) = tb := ⟨_, rfl⟩
    have htx : tx = tb.data.toList := by rw [← htb]
    simp only [htb] at HC
    simp only [htx] at hP0
    have HP0 : Hid (pntW t ws x.data.toList = _) := hP0
    have HF4 : Hid (∀ w3 W4, Below X2.heap.size X2 w3 → w3.alloc (.cells #[.int .i64 (kd : Int), .int .i64 0, .int .i64 (ln : Int), .string tb, .int .i64 it] 113) = W4 → ∀ W5, Below W4.heap.size W4 W5 → Full W5 (w.heap.size + 1) 49 [.int .i64 0, .int .i64 0, .string ⟨#[]⟩, .string ⟨#[]⟩, .bool false] ∧ Full W5 w3.heap.size 113 [.int .i64 (kd : Int), .int .i64 0, .int .i64 (ln : Int), .string tb, .int .i64 it] ∧ W5.cell? ⟨w.heap.size, 1, none⟩ = some (.string x) ∧ Below w.heap.size w W5) := by
      intro w3 W4 h3 h4 W5 h5
      have n4 : Below w3.heap.size w3 W4 := by rw [← h4]; exact (Below.refl _ w3).alloc (Nat.le_refl _) _
      have b4 : Below X2.heap.size X2 W4 := h3.trans (n4.mono h3.size)
      have b5 : Below X2.heap.size X2 W5 := b4.trans (h5.mono b4.size)
      have f4 : Full W4 w3.heap.size 113 [.int .i64 (kd : Int), .int .i64 0, .int .i64 (ln : Int), .string tb, .int .i64 it] := by rw [← h4]; exact Full.new w3 _ _
      exact ⟨f2.next b5, f4.next h5, ((f12.next b5).cell 1 _ rfl).1, b2.trans (b5.mono b2.size)⟩
    have HCl : Hid (∀ W : World, Calls Tryz.prog 31 #[.string x] W fun e w' => e = .returned (.string x) ∧ Below W.heap.size W w') := fun W => Lx.clone_any x W (by omega)
    have hwl : ws.length = 2 ∨ ws.length = 3 := by omega
    have hnx : ws.length = 3 → (x.toList == []) = false := fun h => by
      rw [Lx.toL, beq_eq_false_iff_ne]; rcases hok with h' | h'
      · omega
      · exact h'.2
    obtain ⟨nw, hnw⟩ : ∃ nw, ws.length = nw := ⟨_, rfl⟩
    rw [hnw] at hwl hnx hw2 hle c0 hX1 ⊢
    clear hA hAX hTX hT f1 f12 f2 b1 b2 n2 hok hP0 htx htb hy hy1 hsz hnw
    go_enter Tryz.func45, Tryz.ntmps45
    have go1 : nw = 2 ∨ nw = 3 := hwl
    clear hwl
    rcases go1 with rfl | rfl
    · go_wp2_with fail
      refine HC.mono ?_
      rintro e w3 ⟨rfl, hb3⟩
      clear HC
      obtain ⟨W4, hW4⟩ : ∃ W4, w3.alloc (.cells #[.int .i64 (kd : Int), .int .i64 0, .int .i64 (ln : Int), .string tb, .int .i64 it] 113) = W4 := ⟨_, rfl⟩
      have HG : Hid _ := HF4.out w3 W4 hb3 hW4
      clear HF4 hb3 g0 k0 g1 k1 g2 k2 g3 k3 g4 k4
      obtain ⟨h40, h41, h42, h43⟩ := HG.out W4 (Below.refl _ _)
      obtain ⟨⟨g0, k0⟩, ⟨g1, k1⟩, ⟨g2, k2⟩, ⟨g3, k3⟩, ⟨g4, k4⟩⟩ := h40.cell5
      obtain ⟨⟨t0, -⟩, -, -, ⟨t3, -⟩, ⟨t4, -⟩⟩ := h41.cell5
      have HN4 : Hid (pntW t ws x.data.toList = none → _) := HNo W4 h40 h43
      clear HNo h40 h43
      have d0 : W4.drew.cell? ⟨w3.heap.size, 3, none⟩ = some (.string tb) := t3
      have d4 : W4.drew.cell? ⟨w3.heap.size, 4, none⟩ = some (.int .i64 it) := t4
      have dx : W4.drew.cell? ⟨w.heap.size, 1, none⟩ = some (.string x) := h42
      by_cases q1 : kd = 1
      · have q1t : ((kd : Int) == 1) = true := by rw [q1]; rfl
        by_cases q3 : t = 3
        · have q3t : ((t : Int) == 3) = true := by rw [q3]; rfl
          have HP : Hid (pntW t ws x.data.toList = some ⟨0, 3, 0, (tb : ByteArray).data.toList, x.data.toList, false, 0, []⟩) := by
            show pntW t ws x.data.toList = _
            rw [HP0.out]; (try simp_all [cm0]) <;> (try (intros; omega))
          try clear q1
          try clear q2
          try clear q3
          try clear q5
          go_upto_region 5 with fail
          go_region_law (first
            | (refine step_call (by rfl) 31 [.tmp 39] _ [.string x] (by rfl) (by rfl) (callClone _) (fun v w' => v = .string x ∧ Hid (Below W4.drew.heap.size W4.drew w')) ((HCl.out W4.drew).mono fun _ _ q => ⟨_, q.1, rfl, q.2⟩) ?_; rintro v5 w5 ⟨rfl, hb5⟩; obtain ⟨h50, h51, h52, h53⟩ := HG.out w5 ((Below.refl _ W4).drew.trans hb5.out); obtain ⟨⟨u0, v0⟩, ⟨u1, v1⟩, ⟨u2, v2⟩, ⟨u3, v3⟩, ⟨u4, v4⟩⟩ := h50.cell5; obtain ⟨-, -, -, ⟨r3, -⟩, ⟨r4, -⟩⟩ := h51.cell5)
            | fail)
          all_goals
            go_wp2
            refine bodyPost_ret (ret_point (h50.five _ _ _ _ _) rfl rfl) rfl ?_
            unfold PtP
            exact ⟨3, 0, tb, x, true, rfl, .inl ⟨rfl, HP.out⟩, below_fiveB h53 (by omega) _ _ _ _ _⟩
        · have q3f : ((t : Int) == 3) = false := by rw [beq_eq_false_iff_ne]; omega
          have HP : Hid (pntW t ws x.data.toList = some ⟨0, 2, 0, (tb : ByteArray).data.toList, x.data.toList, false, 0, []⟩) := by
            show pntW t ws x.data.toList = _
            rw [HP0.out]; (try simp_all [cm0]) <;> (try (intros; omega))
          try clear q1
          try clear q2
          try clear q3
          try clear q5
          go_upto_region 7 with fail
          go_region_law (first
            | (refine step_call (by rfl) 31 [.tmp 49] _ [.string x] (by rfl) (by rfl) (callClone _) (fun v w' => v = .string x ∧ Hid (Below W4.drew.heap.size W4.drew w')) ((HCl.out W4.drew).mono fun _ _ q => ⟨_, q.1, rfl, q.2⟩) ?_; rintro v5 w5 ⟨rfl, hb5⟩; obtain ⟨h50, h51, h52, h53⟩ := HG.out w5 ((Below.refl _ W4).drew.trans hb5.out); obtain ⟨⟨u0, v0⟩, ⟨u1, v1⟩, ⟨u2, v2⟩, ⟨u3, v3⟩, ⟨u4, v4⟩⟩ := h50.cell5; obtain ⟨-, -, -, ⟨r3, -⟩, ⟨r4, -⟩⟩ := h51.cell5)
            | fail)
          all_goals
            go_wp2
            refine bodyPost_ret (ret_point (h50.five _ _ _ _ _) rfl rfl) rfl ?_
            unfold PtP
            exact ⟨2, 0, tb, x, true, rfl, .inl ⟨rfl, HP.out⟩, below_fiveB h53 (by omega) _ _ _ _ _⟩
      · have q1f : ((kd : Int) == 1) = false := by rw [beq_eq_false_iff_ne]; omega
        by_cases q2 : kd = 2
        · have q2t : ((kd : Int) == 2) = true := by rw [q2]; rfl
          by_cases q4 : 1 ≤ it
          · by_cases q5 : t = 2
            · have q5t : ((t : Int) == 2) = true := by rw [q5]; rfl
              have HP : Hid (pntW t ws x.data.toList = some ⟨0, 1, it, (⟨#[]⟩ : ByteArray).data.toList, x.data.toList, false, 0, []⟩) := by
                show pntW t ws x.data.toList = _
                rw [HP0.out]; (try simp_all [cm0]) <;> (try (intros; omega))
              try clear q1
              try clear q2
              try clear q3
              try clear q5
              go_upto_region 9 with fail
              go_region_law (first
                | (refine step_call (by rfl) 31 [.tmp 68] _ [.string x] (by rfl) (by rfl) (callClone _) (fun v w' => v = .string x ∧ Hid (Below W4.drew.heap.size W4.drew w')) ((HCl.out W4.drew).mono fun _ _ q => ⟨_, q.1, rfl, q.2⟩) ?_; rintro v5 w5 ⟨rfl, hb5⟩; obtain ⟨h50, h51, h52, h53⟩ := HG.out w5 ((Below.refl _ W4).drew.trans hb5.out); obtain ⟨⟨u0, v0⟩, ⟨u1, v1⟩, ⟨u2, v2⟩, ⟨u3, v3⟩, ⟨u4, v4⟩⟩ := h50.cell5; obtain ⟨-, -, -, ⟨r3, -⟩, ⟨r4, -⟩⟩ := h51.cell5)
                | fail)
              all_goals
                go_wp2
                refine bodyPost_ret (ret_point (h50.five _ _ _ _ _) rfl rfl) rfl ?_
                unfold PtP
                exact ⟨1, it, ⟨#[]⟩, x, true, rfl, .inl ⟨rfl, HP.out⟩, below_fiveB h53 (by omega) _ _ _ _ _⟩
            · have q5f : ((t : Int) == 2) = false := by rw [beq_eq_false_iff_ne]; omega
              have HP : Hid (pntW t ws x.data.toList = none) := by
                show pntW t ws x.data.toList = none
                rw [HP0.out]; (try simp_all) <;> (try (intros; omega))
              have HD : Hid _ := HN4.out HP.out
              try clear q1
              try clear q2
              try clear q3
              try clear q5
              go_wp2
              refine bodyPost_ret (v := .tuple #[.agg #[.int .i64 0, .int .i64 0, .string ⟨#[]⟩, .string ⟨#[]⟩, .bool false], .bool false]) (by exact ret_point HD.out.1 rfl rfl) (by rfl) ?_
              unfold PtP
              exact ⟨0, 0, ⟨#[]⟩, ⟨#[]⟩, false, rfl, .inr ⟨rfl, HD.out.2.1⟩, HD.out.2.2⟩
          · have HP : Hid (pntW t ws x.data.toList = none) := by
              show pntW t ws x.data.toList = none
              rw [HP0.out]; (try simp_all) <;> (try (intros; omega))
            have HD : Hid _ := HN4.out HP.out
            try clear q1
            try clear q2
            try clear q3
            try clear q5
            go_wp2
            refine bodyPost_ret (v := .tuple #[.agg #[.int .i64 0, .int .i64 0, .string ⟨#[]⟩, .string ⟨#[]⟩, .bool false], .bool false]) (by exact ret_point HD.out.1 rfl rfl) (by rfl) ?_
            unfold PtP
            exact ⟨0, 0, ⟨#[]⟩, ⟨#[]⟩, false, rfl, .inr ⟨rfl, HD.out.2.1⟩, HD.out.2.2⟩
        · have q2f : ((kd : Int) == 2) = false := by rw [beq_eq_false_iff_ne]; omega
          have HP : Hid (pntW t ws x.data.toList = none) := by
            show pntW t ws x.data.toList = none
            rw [HP0.out]; (try simp_all) <;> (try (intros; omega))
          have HD : Hid _ := HN4.out HP.out
          try clear q1
          try clear q2
          try clear q3
          try clear q5
          go_wp2
          refine bodyPost_ret (v := .tuple #[.agg #[.int .i64 0, .int .i64 0, .string ⟨#[]⟩, .string ⟨#[]⟩, .bool false], .bool false]) (by exact ret_point HD.out.1 rfl rfl) (by rfl) ?_
          unfold PtP
          exact ⟨0, 0, ⟨#[]⟩, ⟨#[]⟩, false, rfl, .inr ⟨rfl, HD.out.2.1⟩, HD.out.2.2⟩
    · have hnx2 := hnx rfl
      go_wp2_with fail
      refine HC.mono ?_
      rintro e w3 ⟨rfl, hb3⟩
      clear HC
      obtain ⟨W4, hW4⟩ : ∃ W4, w3.alloc (.cells #[.int .i64 (kd : Int), .int .i64 0, .int .i64 (ln : Int), .string tb, .int .i64 it] 113) = W4 := ⟨_, rfl⟩
      have HG : Hid _ := HF4.out w3 W4 hb3 hW4
      clear HF4 hb3 g0 k0 g1 k1 g2 k2 g3 k3 g4 k4
      obtain ⟨h40, h41, h42, h43⟩ := HG.out W4 (Below.refl _ _)
      obtain ⟨⟨g0, k0⟩, ⟨g1, k1⟩, ⟨g2, k2⟩, ⟨g3, k3⟩, ⟨g4, k4⟩⟩ := h40.cell5
      obtain ⟨⟨t0, -⟩, -, -, ⟨t3, -⟩, ⟨t4, -⟩⟩ := h41.cell5
      have HN4 : Hid (pntW t ws x.data.toList = none → _) := HNo W4 h40 h43
      clear HNo h40 h43
      have d0 : W4.drew.cell? ⟨w3.heap.size, 3, none⟩ = some (.string tb) := t3
      have d4 : W4.drew.cell? ⟨w3.heap.size, 4, none⟩ = some (.int .i64 it) := t4
      have dx : W4.drew.cell? ⟨w.heap.size, 1, none⟩ = some (.string x) := h42
      by_cases q1 : kd = 1
      · have q1t : ((kd : Int) == 1) = true := by rw [q1]; rfl
        by_cases q3 : t = 3
        · have q3t : ((t : Int) == 3) = true := by rw [q3]; rfl
          have HP : Hid (pntW t ws x.data.toList = some ⟨0, 3, 0, (tb : ByteArray).data.toList, x.data.toList, false, 0, []⟩) := by
            show pntW t ws x.data.toList = _
            rw [HP0.out]; (try simp_all [cm0]) <;> (try (intros; omega))
          try clear q1
          try clear q2
          try clear q3
          try clear q5
          go_upto_region 5 with fail
          go_region_law (first
            | (refine step_call (by rfl) 31 [.tmp 39] _ [.string x] (by rfl) (by rfl) (callClone _) (fun v w' => v = .string x ∧ Hid (Below W4.drew.heap.size W4.drew w')) ((HCl.out W4.drew).mono fun _ _ q => ⟨_, q.1, rfl, q.2⟩) ?_; rintro v5 w5 ⟨rfl, hb5⟩; obtain ⟨h50, h51, h52, h53⟩ := HG.out w5 ((Below.refl _ W4).drew.trans hb5.out); obtain ⟨⟨u0, v0⟩, ⟨u1, v1⟩, ⟨u2, v2⟩, ⟨u3, v3⟩, ⟨u4, v4⟩⟩ := h50.cell5; obtain ⟨-, -, -, ⟨r3, -⟩, ⟨r4, -⟩⟩ := h51.cell5)
            | fail)
          all_goals
            go_wp2
            refine bodyPost_ret (ret_point (h50.five _ _ _ _ _) rfl rfl) rfl ?_
            unfold PtP
            exact ⟨3, 0, tb, x, true, rfl, .inl ⟨rfl, HP.out⟩, below_fiveB h53 (by omega) _ _ _ _ _⟩
        · have q3f : ((t : Int) == 3) = false := by rw [beq_eq_false_iff_ne]; omega
          have HP : Hid (pntW t ws x.data.toList = some ⟨0, 2, 0, (tb : ByteArray).data.toList, x.data.toList, false, 0, []⟩) := by
            show pntW t ws x.data.toList = _
            rw [HP0.out]; (try simp_all [cm0]) <;> (try (intros; omega))
          try clear q1
          try clear q2
          try clear q3
          try clear q5
          go_upto_region 7 with fail
          go_region_law (first
            | (refine step_call (by rfl) 31 [.tmp 49] _ [.string x] (by rfl) (by rfl) (callClone _) (fun v w' => v = .string x ∧ Hid (Below W4.drew.heap.size W4.drew w')) ((HCl.out W4.drew).mono fun _ _ q => ⟨_, q.1, rfl, q.2⟩) ?_; rintro v5 w5 ⟨rfl, hb5⟩; obtain ⟨h50, h51, h52, h53⟩ := HG.out w5 ((Below.refl _ W4).drew.trans hb5.out); obtain ⟨⟨u0, v0⟩, ⟨u1, v1⟩, ⟨u2, v2⟩, ⟨u3, v3⟩, ⟨u4, v4⟩⟩ := h50.cell5; obtain ⟨-, -, -, ⟨r3, -⟩, ⟨r4, -⟩⟩ := h51.cell5)
            | fail)
          all_goals
            go_wp2
            refine bodyPost_ret (ret_point (h50.five _ _ _ _ _) rfl rfl) rfl ?_
            unfold PtP
            exact ⟨2, 0, tb, x, true, rfl, .inl ⟨rfl, HP.out⟩, below_fiveB h53 (by omega) _ _ _ _ _⟩
      · have q1f : ((kd : Int) == 1) = false := by rw [beq_eq_false_iff_ne]; omega
        by_cases q2 : kd = 2
        · have q2t : ((kd : Int) == 2) = true := by rw [q2]; rfl
          by_cases q4 : 1 ≤ it
          · by_cases q5 : t = 2
            · have q5t : ((t : Int) == 2) = true := by rw [q5]; rfl
              have HP : Hid (pntW t ws x.data.toList = some ⟨0, 1, it, (⟨#[]⟩ : ByteArray).data.toList, x.data.toList, false, 0, []⟩) := by
                show pntW t ws x.data.toList = _
                rw [HP0.out]; (try simp_all [cm0]) <;> (try (intros; omega))
              try clear q1
              try clear q2
              try clear q3
              try clear q5
              go_upto_region 9 with fail
              go_region_law (first
                | (refine step_call (by rfl) 31 [.tmp 68] _ [.string x] (by rfl) (by rfl) (callClone _) (fun v w' => v = .string x ∧ Hid (Below W4.drew.heap.size W4.drew w')) ((HCl.out W4.drew).mono fun _ _ q => ⟨_, q.1, rfl, q.2⟩) ?_; rintro v5 w5 ⟨rfl, hb5⟩; obtain ⟨h50, h51, h52, h53⟩ := HG.out w5 ((Below.refl _ W4).drew.trans hb5.out); obtain ⟨⟨u0, v0⟩, ⟨u1, v1⟩, ⟨u2, v2⟩, ⟨u3, v3⟩, ⟨u4, v4⟩⟩ := h50.cell5; obtain ⟨-, -, -, ⟨r3, -⟩, ⟨r4, -⟩⟩ := h51.cell5)
                | fail)
              all_goals
                go_wp2
                refine bodyPost_ret (ret_point (h50.five _ _ _ _ _) rfl rfl) rfl ?_
                unfold PtP
                exact ⟨1, it, ⟨#[]⟩, x, true, rfl, .inl ⟨rfl, HP.out⟩, below_fiveB h53 (by omega) _ _ _ _ _⟩
            · have q5f : ((t : Int) == 2) = false := by rw [beq_eq_false_iff_ne]; omega
              have HP : Hid (pntW t ws x.data.toList = none) := by
                show pntW t ws x.data.toList = none
                rw [HP0.out]; (try simp_all) <;> (try (intros; omega))
              have HD : Hid _ := HN4.out HP.out
              try clear q1
              try clear q2
              try clear q3
              try clear q5
              go_wp2
              refine bodyPost_ret (v := .tuple #[.agg #[.int .i64 0, .int .i64 0, .string ⟨#[]⟩, .string ⟨#[]⟩, .bool false], .bool false]) (by exact ret_point HD.out.1 rfl rfl) (by rfl) ?_
              unfold PtP
              exact ⟨0, 0, ⟨#[]⟩, ⟨#[]⟩, false, rfl, .inr ⟨rfl, HD.out.2.1⟩, HD.out.2.2⟩
          · have HP : Hid (pntW t ws x.data.toList = none) := by
              show pntW t ws x.data.toList = none
              rw [HP0.out]; (try simp_all) <;> (try (intros; omega))
            have HD : Hid _ := HN4.out HP.out
            try clear q1
            try clear q2
            try clear q3
            try clear q5
            go_wp2
            refine bodyPost_ret (v := .tuple #[.agg #[.int .i64 0, .int .i64 0, .string ⟨#[]⟩, .string ⟨#[]⟩, .bool false], .bool false]) (by exact ret_point HD.out.1 rfl rfl) (by rfl) ?_
            unfold PtP
            exact ⟨0, 0, ⟨#[]⟩, ⟨#[]⟩, false, rfl, .inr ⟨rfl, HD.out.2.1⟩, HD.out.2.2⟩
        · have q2f : ((kd : Int) == 2) = false := by rw [beq_eq_false_iff_ne]; omega
          have HP : Hid (pntW t ws x.data.toList = none) := by
            show pntW t ws x.data.toList = none
            rw [HP0.out]; (try simp_all) <;> (try (intros; omega))
          have HD : Hid _ := HN4.out HP.out
          try clear q1
          try clear q2
          try clear q3
          try clear q5
          go_wp2
          refine bodyPost_ret (v := .tuple #[.agg #[.int .i64 0, .int .i64 0, .string ⟨#[]⟩, .string ⟨#[]⟩, .bool false], .bool false]) (by exact ret_point HD.out.1 rfl rfl) (by rfl) ?_
          unfold PtP
          exact ⟨0, 0, ⟨#[]⟩, ⟨#[]⟩, false, rfl, .inr ⟨rfl, HD.out.2.1⟩, HD.out.2.2⟩
  · have hn : pntW t ws x.data.toList = none := by unfold pntW; rw [if_neg hok]
    have HD : Hid _ := HNo X2 f2 b2 hn
    have hl2 : ((ws.length : Int) == 2) = false := by rw [beq_eq_false_iff_ne]; omega
    by_cases h3 : ws.length = 3
    · have hx0 : (x.toList == []) = true := by
        have : x.data.toList = [] := Classical.byContradiction fun h => hok (.inr ⟨h3, h⟩)
        rw [Lx.toL, this]; rfl
      obtain ⟨nw, hnw⟩ : ∃ nw, ws.length = nw := ⟨_, rfl⟩
      rw [hnw] at c0 hX1 hl2 h3 ⊢
      subst h3
      clear hA hAX hTX hT f1 f12 f2 b1 b2 n2 hok hn hsz hle hnw HNo hl2
      go_enter Tryz.func45, Tryz.ntmps45
      go_wp2
      refine bodyPost_ret (v := .tuple #[.agg #[.int .i64 0, .int .i64 0, .string ⟨#[]⟩, .string ⟨#[]⟩, .bool false], .bool false]) (by exact ret_point HD.out.1 rfl rfl) (by rfl) ?_
      unfold PtP
      exact ⟨0, 0, ⟨#[]⟩, ⟨#[]⟩, false, rfl, .inr ⟨rfl, HD.out.2.1⟩, HD.out.2.2⟩
    · obtain ⟨nw, hnw⟩ : ∃ nw, ws.length = nw := ⟨_, rfl⟩
      have hn2 : ¬ nw = 2 := by omega
      have hn3 : ¬ nw = 3 := by omega
      have hl3 : ((nw : Int) == 3) = false := by rw [beq_eq_false_iff_ne]; omega
      have hi2 : ¬ (nw : Int) = 2 := by omega
      have hi3 : ¬ (nw : Int) = 3 := by omega
      rw [hnw] at c0 hX1 hl2 ⊢
      clear hA hAX hTX hT f1 f12 f2 b1 b2 n2 hok hn hsz hle HNo h3 hnw
      go_enter Tryz.func45, Tryz.ntmps45
      go_wp2
      refine bodyPost_ret (v := .tuple #[.agg #[.int .i64 0, .int .i64 0, .string ⟨#[]⟩, .string ⟨#[]⟩, .bool false], .bool false]) (by exact ret_point HD.out.1 rfl rfl) (by rfl) ?_
      unfold PtP
      exact ⟨0, 0, ⟨#[]⟩, ⟨#[]⟩, false, rfl, .inr ⟨rfl, HD.out.2.1⟩, HD.out.2.2⟩
end Go.Proofs.YtichbejmelkjeaaGreatDoor

namespace Go.Proofs.YtichbejmelkjeaaGreatDoor
open Go.RowKit

theorem callPoint (a b : Value) (w : World) : (callFunc 45 #[a, b]).run Tryz.prog w = .ok (.enter 45 #[a, b]) w := by kernel_rfl
theorem Full.cell8 {W : World} {B : Nat} {t : TypeId} {x0 x1 x2 x3 x4 x5 x6 x7 : Value} (h : Full W B t [x0, x1, x2, x3, x4, x5, x6, x7]) : (W.cell? ⟨B, 0, none⟩ = some x0 ∧ W.frozen? ⟨B, 0, none⟩ = false) ∧ (W.cell? ⟨B, 1, none⟩ = some x1 ∧ W.frozen? ⟨B, 1, none⟩ = false) ∧ (W.cell? ⟨B, 2, none⟩ = some x2 ∧ W.frozen? ⟨B, 2, none⟩ = false) ∧ (W.cell? ⟨B, 3, none⟩ = some x3 ∧ W.frozen? ⟨B, 3, none⟩ = false) ∧ (W.cell? ⟨B, 4, none⟩ = some x4 ∧ W.frozen? ⟨B, 4, none⟩ = false) ∧ (W.cell? ⟨B, 5, none⟩ = some x5 ∧ W.frozen? ⟨B, 5, none⟩ = false) ∧ (W.cell? ⟨B, 6, none⟩ = some x6 ∧ W.frozen? ⟨B, 6, none⟩ = false) ∧ (W.cell? ⟨B, 7, none⟩ = some x7 ∧ W.frozen? ⟨B, 7, none⟩ = false) :=
  ⟨h.cell 0 _ rfl, h.cell 1 _ rfl, h.cell 2 _ rfl, h.cell 3 _ rfl, h.cell 4 _ rfl, h.cell 5 _ rfl, h.cell 6 _ rfl, h.cell 7 _ rfl⟩
theorem Full.eight {W : World} {B : Nat} {t : TypeId} {x0 x1 x2 x3 x4 x5 x6 x7 : Value} (h : Full W B t [x0, x1, x2, x3, x4, x5, x6, x7]) (y0 y1 y2 y3 y4 y5 y6 y7 : Value) :
    Full ((((((((W.setCell ⟨B, 0, none⟩ y0).setCell ⟨B, 1, none⟩ y1).setCell ⟨B, 2, none⟩ y2).setCell ⟨B, 3, none⟩ y3).setCell ⟨B, 4, none⟩ y4).setCell ⟨B, 5, none⟩ y5).setCell ⟨B, 6, none⟩ y6).setCell ⟨B, 7, none⟩ y7) B t [y0, y1, y2, y3, y4, y5, y6, y7] :=
  (Full.put1 (a := [y0, y1, y2, y3, y4, y5, y6]) (Full.put1 (a := [y0, y1, y2, y3, y4, y5]) (Full.put1 (a := [y0, y1, y2, y3, y4]) (Full.put1 (a := [y0, y1, y2, y3]) (Full.put1 (a := [y0, y1, y2]) (Full.put1 (a := [y0, y1]) (Full.put1 (a := [y0]) (Full.put1 (a := []) h y0) y1) y2) y3) y4) y5) y6) y7)
theorem below_eight {w0 w : World} {A B : Nat} (h : Below A w0 w) (hA : A ≤ B) (y0 y1 y2 y3 y4 y5 y6 y7 : Value) : Below A w0 ((((((((w.setCell ⟨B, 0, none⟩ y0).setCell ⟨B, 1, none⟩ y1).setCell ⟨B, 2, none⟩ y2).setCell ⟨B, 3, none⟩ y3).setCell ⟨B, 4, none⟩ y4).setCell ⟨B, 5, none⟩ y5).setCell ⟨B, 6, none⟩ y6).setCell ⟨B, 7, none⟩ y7) :=
  (Below.setCell (p := ⟨B, 7, none⟩) (Below.setCell (p := ⟨B, 6, none⟩) (Below.setCell (p := ⟨B, 5, none⟩) (Below.setCell (p := ⟨B, 4, none⟩) (Below.setCell (p := ⟨B, 3, none⟩) (Below.setCell (p := ⟨B, 2, none⟩) (Below.setCell (p := ⟨B, 1, none⟩) (Below.setCell (p := ⟨B, 0, none⟩) h hA y0) hA y1) hA y2) hA y3) hA y4) hA y5) hA y6) hA y7)
theorem ret_cmd {w : World} {B : Nat} {x0 x1 x2 x3 x4 x5 x6 x7 x : Value} {tm : Array Value} (hf : Full w B 51 [x0, x1, x2, x3, x4, x5, x6, x7]) (h2 : tm[2]?.getD undef = .pointer (some ⟨B, 0, none⟩)) (h3 : tm[3]?.getD undef = x) :
    (results Tryz.f26 tm).run Tryz.prog w = .ok (.tuple #[.agg #[x0, x1, x2, x3, x4, x5, x6, x7], x]) w := by
  obtain ⟨⟨c0, -⟩, ⟨c1, -⟩, ⟨c2, -⟩, ⟨c3, -⟩, ⟨c4, -⟩, ⟨c5, -⟩, ⟨c6, -⟩, ⟨c7, -⟩⟩ := hf.cell8
  simp [results, Tryz.results26, go_sem, h2, h3, c0, c1, c2, c3, c4, c5, c6, c7]
/-- What command answers. -/
def CmP (w : World) (ws : List (List UInt8)) (x : ByteArray) (e : Ending) (w' : World) : Prop :=
  ∃ (k a1 a2 : Int) (a3 a4 : ByteArray) (a6 : Int) (a7 : ByteArray) (b : Bool), e = .returned (.tuple #[.agg #[.int .i64 k, .int .i64 a1, .int .i64 a2, .string a3, .string a4, .bool false, .int .i64 a6, .string a7], .bool b]) ∧ Hid (((b = true ∧ cmdP ws x.data.toList = some ⟨k, a1, a2, a3.data.toList, a4.data.toList, false, a6, a7.data.toList⟩) ∨ (b = false ∧ cmdP ws x.data.toList = none)) ∧ Below w.heap.size w w')
/-- Where command stands when its result is laid back. -/
structure CmI (w W : World) (b4 : Nat) (L : List Value) : Prop where
  f1 : Full W (w.heap.size + 1) 51 [.int .i64 0, .int .i64 0, .int .i64 0, .string ⟨#[]⟩, .string ⟨#[]⟩, .bool false, .int .i64 0, .string ⟨#[]⟩]
  f4 : Full W b4 51 L
  b : Below w.heap.size w W
theorem CmI.next {w W W' : World} {b4 : Nat} {L : List Value} (h : CmI w W b4 L) (hb : Below W.heap.size W W') : CmI w W' b4 L := ⟨h.f1.next hb, h.f4.next hb, h.b.trans (hb.mono h.b.size)⟩
set_option maxRecDepth 100000 in
set_option maxHeartbeats 8000000 in
theorem command_any {q : Option Addr} {cap : Nat} {ws : List (List UInt8)} {w : World} (hA : WsA w q cap ws) (x : ByteArray) (hxs : x.size ≤ 300) (hT : Tb w) :
    Calls Tryz.prog 26 #[.agg #[.slice q ws.length cap, .string x]] w (CmP w ws x) := by
  obtain ⟨X1, hX1⟩ : ∃ X1, w.alloc (.cells #[.slice q ws.length cap, .string x] 67) = X1 := ⟨_, rfl⟩
  have b1 : Below w.heap.size w X1 := by rw [← hX1]; exact (Below.refl _ w).alloc (Nat.le_refl _) _
  have f1 : Full X1 w.heap.size 67 [.slice q ws.length cap, .string x] := by rw [← hX1]; exact Full.new w _ _
  have z1 : X1.heap.size = w.heap.size + 1 := by rw [← hX1]; simp
  obtain ⟨X2, hX2⟩ : ∃ X2, X1.alloc (.cells #[.int .i64 0, .int .i64 0, .int .i64 0, .string ⟨#[]⟩, .string ⟨#[]⟩, .bool false, .int .i64 0, .string ⟨#[]⟩] 51) = X2 := ⟨_, rfl⟩
  have n2 : Below X1.heap.size X1 X2 := by rw [← hX2]; exact (Below.refl _ X1).alloc (Nat.le_refl _) _
  have b2 : Below w.heap.size w X2 := b1.trans (n2.mono b1.size)
  have f2 : Full X2 (w.heap.size + 1) 51 [.int .i64 0, .int .i64 0, .int .i64 0, .string ⟨#[]⟩, .string ⟨#[]⟩, .bool false, .int .i64 0, .string ⟨#[]⟩] := by rw [← hX2, ← z1]; exact Full.new X1 _ _
  have f12 := f1.next n2
  have hAX := hA.next b2
  have hTX := hT.next b2
  have c0 := (f12.cell 0 _ rfl).1
  have hle := hA.le
  by_cases hl0 : ws = []
  · subst hl0
    have HD : Hid (Full ((((((((X2.setCell ⟨w.heap.size + 1, 0, none⟩ (.int .i64 0)).setCell ⟨w.heap.size + 1, 1, none⟩ (.int .i64 0)).setCell ⟨w.heap.size + 1, 2, none⟩ (.int .i64 0)).setCell ⟨w.heap.size + 1, 3, none⟩ (.string ⟨#[]⟩)).setCell ⟨w.heap.size + 1, 4, none⟩ (.string ⟨#[]⟩)).setCell ⟨w.heap.size + 1, 5, none⟩ (.bool false)).setCell ⟨w.heap.size + 1, 6, none⟩ (.int .i64 0)).setCell ⟨w.heap.size + 1, 7, none⟩ (.string ⟨#[]⟩)) (w.heap.size + 1) 51 [.int .i64 0, .int .i64 0, .int .i64 0, .string ⟨#[]⟩, .string ⟨#[]⟩, .bool false, .int .i64 0, .string ⟨#[]⟩] ∧ Below w.heap.size w ((((((((X2.setCell ⟨w.heap.size + 1, 0, none⟩ (.int .i64 0)).setCell ⟨w.heap.size + 1, 1, none⟩ (.int .i64 0)).setCell ⟨w.heap.size + 1, 2, none⟩ (.int .i64 0)).setCell ⟨w.heap.size + 1, 3, none⟩ (.string ⟨#[]⟩)).setCell ⟨w.heap.size + 1, 4, none⟩ (.string ⟨#[]⟩)).setCell ⟨w.heap.size + 1, 5, none⟩ (.bool false)).setCell ⟨w.heap.size + 1, 6, none⟩ (.int .i64 0)).setCell ⟨w.heap.size + 1, 7, none⟩ (.string ⟨#[]⟩))) := ⟨f2.eight _ _ _ _ _ _ _ _, below_eight b2 (by omega) _ _ _ _ _ _ _ _⟩
    obtain ⟨⟨g0, k0⟩, ⟨g1, k1⟩, ⟨g2, k2⟩, ⟨g3, k3⟩, ⟨g4, k4⟩, ⟨g5, k5⟩, ⟨g6, k6⟩, ⟨g7, k7⟩⟩ := f2.cell8
    simp only [List.length_nil] at c0 hX1 ⊢
    clear hA hAX hTX hT f1 f12 f2 b1 b2 n2 hle
    go_enter Tryz.func26, Tryz.ntmps26
    go_wp2
    refine bodyPost_ret (by exact ret_cmd HD.out.1 rfl rfl) (by rfl) ?_
    unfold CmP
    exact ⟨0, 0, 0, ⟨#[]⟩, ⟨#[]⟩, 0, ⟨#[]⟩, false, rfl, .inr ⟨rfl, rfl⟩, HD.out.2⟩
  obtain ⟨w00, wt, hws⟩ : ∃ a b, ws = a :: b := by
    cases ws with
    | nil => exact absurd rfl hl0
    | cons a b => exact ⟨a, b, rfl⟩
  have hpos : 0 < ws.length := by rw [hws]; simp
  obtain ⟨g, rfl, -⟩ := hA.at_ hpos
  obtain ⟨y, hy⟩ : ∃ y : ByteArray, y.data.toList = w00 := ⟨⟨w00.toArray⟩, rfl⟩
  have d1 : X2.cell? ⟨g, 0, none⟩ = some (.string y) := hAX.cell 0 y (by rw [hws, hy]; rfl)
  have HC := kindOf_any y X2 hTX
  have hkl := knd_lt y.data.toList
  obtain ⟨kn, hkn⟩ : ∃ kn, knd y.data.toList = kn := ⟨_, rfl⟩
  rw [hkn] at HC hkl
  obtain ⟨tn, htn⟩ : ∃ tn, tks kn = tn := ⟨_, rfl⟩
  have hk0 : (0 : Int) ≤ (kn : Int) := by omega
  have hk2 : (kn : Int) < 23 := by omega
  have hP0 : cmdP ws x.data.toList = cmdP (w00 :: wt) x.data.toList := by rw [hws]
  unfold cmdP at hP0
  simp only [← hy, hkn, htn] at hP0
  have HP0 : Hid (cmdP ws x.data.toList = _) := hP0
  have HF4 : Hid (∀ w3 W4, Below X2.heap.size X2 w3 → w3.alloc (.cells #[.int .i64 (kn : Int), .int .i64 0, .int .i64 0, .string ⟨#[]⟩, .string ⟨#[]⟩, .bool false, .int .i64 0, .string ⟨#[]⟩] 51) = W4 → CmI w W4 w3.heap.size [.int .i64 (kn : Int), .int .i64 0, .int .i64 0, .string ⟨#[]⟩, .string ⟨#[]⟩, .bool false, .int .i64 0, .string ⟨#[]⟩] ∧ w.heap.size + 2 ≤ w3.heap.size ∧ ∀ W5, Below W4.heap.size W4 W5 → Full W5 w.heap.size 67 [.slice (some ⟨g, 0, none⟩) ws.length cap, .string x] ∧ Tb W5 ∧ WsA W5 (some ⟨g, 0, none⟩) cap ws ∧ W5.cell? ⟨3, kn * 2 + 1, none⟩ = some (.int .i64 (tn : Int))) := by
    intro w3 W4 h3 h4
    have n4 : Below w3.heap.size w3 W4 := by rw [← h4]; exact (Below.refl _ w3).alloc (Nat.le_refl _) _
    have b4 : Below X2.heap.size X2 W4 := h3.trans (n4.mono h3.size)
    have f4 : Full W4 w3.heap.size 51 [.int .i64 (kn : Int), .int .i64 0, .int .i64 0, .string ⟨#[]⟩, .string ⟨#[]⟩, .bool false, .int .i64 0, .string ⟨#[]⟩] := by rw [← h4]; exact Full.new w3 _ _
    have z2 : X2.heap.size = w.heap.size + 2 := by rw [← hX2]; simp [z1]
    refine ⟨⟨f2.next b4, f4, b2.trans (b4.mono b2.size)⟩, by have := h3.size; omega, fun W5 h5 => ?_⟩
    have b5 : Below X2.heap.size X2 W5 := b4.trans (h5.mono b4.size)
    have hT5 := hTX.next b5
    exact ⟨f12.next b5, hT5, hAX.next b5, by rw [← htn]; exact hT5.takes kn hkl⟩
  have HB : ∀ i : Nat, (tn = i → ((tn : Int) == (i : Int)) = true) ∧ (tn ≠ i → ((tn : Int) == (i : Int)) = false) := fun i => ⟨fun h => by rw [h]; exact beq_self_eq_true _, fun h => by rw [beq_eq_false_iff_ne]; omega⟩
  obtain ⟨nw, hnw⟩ : ∃ nw, ws.length = nw := ⟨_, rfl⟩
  have hn0 : ((nw : Int) == 0) = false := by rw [beq_eq_false_iff_ne]; omega
  have hn0' : ¬ nw = 0 := by omega
  have hp0 : (0 : Int) < (nw : Int) := by omega
  have hp1 : 0 < nw := by omega
  rw [hnw] at c0 hX1 hle ⊢
  have HWL : Hid (ws.length = nw ∧ ws = w00 :: wt ∧ y.data.toList = w00 ∧ ¬ nw = 0) := ⟨hnw, hws, hy, by omega⟩
  clear hA hAX hTX hT f1 f12 f2 b1 b2 n2 hP0 hkn hy hws hl0 hkl hnw hpos htn
  go_enter Tryz.func26, Tryz.ntmps26
  go_wp2_with fail
  refine HC.mono ?_
  rintro e w3 ⟨rfl, hb3⟩
  clear HC
  obtain ⟨W4, hW4⟩ : ∃ W4, w3.alloc (.cells #[.int .i64 (kn : Int), .int .i64 0, .int .i64 0, .string ⟨#[]⟩, .string ⟨#[]⟩, .bool false, .int .i64 0, .string ⟨#[]⟩] 51) = W4 := ⟨_, rfl⟩
  obtain ⟨hI4, hz3, hG0⟩ := HF4.out w3 W4 hb3 hW4
  have HI4 : Hid (CmI w W4 w3.heap.size [.int .i64 (kn : Int), .int .i64 0, .int .i64 0, .string ⟨#[]⟩, .string ⟨#[]⟩, .bool false, .int .i64 0, .string ⟨#[]⟩]) := hI4
  have HG : Hid _ := hG0
  clear HF4 hb3 hG0 hX1 hX2 z1 c0 d1
  obtain ⟨fb, hTb, hWs, ct⟩ := HG.out W4 (Below.refl _ _)
  have c0 := (fb.cell 0 _ rfl).1
  have c1 := (fb.cell 1 _ rfl).1
  rw [HWL.out.1] at c0
  obtain ⟨⟨g0, k0⟩, ⟨g1, k1⟩, ⟨g2, k2⟩, ⟨g3, k3⟩, ⟨g4, k4⟩, ⟨g5, k5⟩, ⟨g6, k6⟩, ⟨g7, k7⟩⟩ := hI4.f1.cell8
  obtain ⟨⟨r0, s0⟩, ⟨r1, s1⟩, ⟨r2, s2⟩, ⟨r3, s3⟩, ⟨r4, s4⟩, ⟨r5, s5⟩, ⟨r6, s6⟩, ⟨r7, s7⟩⟩ := hI4.f4.cell8
  clear hI4
  subst hW4
  by_cases h1 : tn = 1
  · by_cases hone : nw = 1
    · have hP : cmdP ws x.data.toList = some ⟨kn, 0, 0, [], [], false, 0, []⟩ := by
        have hwt : wt = [] := by have h2 := HWL.out.1; rw [HWL.out.2.1] at h2; simp at h2; exact List.eq_nil_of_length_eq_zero (by omega)
        rw [HP0.out, h1, hwt]; rfl
      have HP : Hid _ := hP
      have q1 := (HB 1).1 h1
      have q2 := (HB 2).2 (by omega)
      have q3 := (HB 3).2 (by omega)
      have q4 := (HB 4).2 (by omega)
      have q5 := (HB 5).2 (by omega)
      have q6 := (HB 6).2 (by omega)
      have hnb : ((nw : Int) == 1) = true := by rw [hone]; rfl
      clear hP HB h1 hone HP0 hWs hTb fb
      go_wp2
      refine bodyPost_ret (by exact ret_cmd (HI4.out.f1.eight _ _ _ _ _ _ _ _) rfl rfl) (by rfl) ?_
      unfold CmP
      exact ⟨kn, 0, 0, ⟨#[]⟩, ⟨#[]⟩, 0, ⟨#[]⟩, true, rfl, .inl ⟨rfl, HP.out⟩, below_eight HI4.out.b (by omega) _ _ _ _ _ _ _ _⟩
    · have hP : cmdP ws x.data.toList = none := by
        have hwt : wt ≠ [] := fun h => by have h2 := HWL.out.1; rw [HWL.out.2.1, h] at h2; simp at h2; omega
        rw [HP0.out, h1]; simp [hwt]
      have HP : Hid _ := hP
      have q1 := (HB 1).1 h1
      have q2 := (HB 2).2 (by omega)
      have q3 := (HB 3).2 (by omega)
      have q4 := (HB 4).2 (by omega)
      have q5 := (HB 5).2 (by omega)
      have q6 := (HB 6).2 (by omega)
      have hnb : ((nw : Int) == 1) = false := by rw [beq_eq_false_iff_ne]; omega
      have hnb' : ¬ nw = 1 := hone
      clear hP HB h1 hone HP0 hWs hTb fb
      go_wp2
      refine bodyPost_ret (by exact ret_cmd (HI4.out.f1.eight _ _ _ _ _ _ _ _) rfl rfl) (by rfl) ?_
      unfold CmP
      exact ⟨kn, 0, 0, ⟨#[]⟩, ⟨#[]⟩, 0, ⟨#[]⟩, false, rfl, .inr ⟨rfl, HP.out⟩, below_eight HI4.out.b (by omega) _ _ _ _ _ _ _ _⟩
  by_cases h23 : tn = 2 ∨ tn = 3
  · have hP : cmdP ws x.data.toList = (pntW tn ws x.data.toList).map fun c => { c with kind := kn } := by
      rw [HP0.out, if_neg h1, if_pos h23, HWL.out.2.1]
      match wt with
      | [] => simp [pntW]
      | [a] => simp [pntW]
      | [a, b] =>
        by_cases hx : x.data.toList = []
        · simp [pntW, hx]
        · simp [pntW, hx]
      | a :: b :: c :: d => simp [pntW]
    have HP : Hid _ := hP
    have q1 := (HB 1).2 h1
    have hor : ((tn : Int) == 2) = true ∨ (((tn : Int) == 2) = false ∧ ((tn : Int) == 3) = true) := by
      rcases h23 with h | h
      · exact .inl ((HB 2).1 h)
      · exact .inr ⟨(HB 2).2 (by omega), (HB 3).1 h⟩
    have HC0 : Hid (∀ W : World, WsA W (some ⟨g, 0, none⟩) cap ws → Tb W → Calls Tryz.prog 45 #[.agg #[.slice (some ⟨g, 0, none⟩) nw cap, .string x], .int .i64 (tn : Int)] W (PtP W tn ws x)) := fun W h1 h2 => by have h3 := point_any tn h1 x hxs h2; rw [HWL.out.1] at h3; exact h3
    clear hP HB HP0 hWs hTb fb h1 h23
    rcases hor with q2 | ⟨q2, q3⟩
    all_goals
      go_upto_region 10 with fail
      generalize w3.alloc (.cells #[.int .i64 (kn : Int), .int .i64 0, .int .i64 0, .string ⟨#[]⟩, .string ⟨#[]⟩, .bool false, .int .i64 0, .string ⟨#[]⟩] 51) = Y at *
      obtain ⟨fd, hTd, hWd, ctd⟩ := HG.out Y.drew (Below.refl _ _).drew
      have d0 : Y.drew.cell? ⟨w.heap.size, 0, none⟩ = some (.slice (some ⟨g, 0, none⟩) nw cap) := c0
      have d1 : Y.drew.cell? ⟨w.heap.size, 1, none⟩ = some (.string x) := c1
      have d2 : Y.drew.cell? ⟨w3.heap.size, 0, none⟩ = some (.int .i64 (kn : Int)) := r0
      have HC := HC0.out Y.drew hWd hTd
      clear fd hTd hWd HC0
      clear r0 g0 g1 g2 g3 g4 g5 g6 g7 k0 k1 k2 k3 k4 k5 k6 k7 r1 r2 r3 r4 r5 r6 r7 s0 s1 s2 s3 s4 s5 s6 s7
      go_region_law (first
        | (refine step_call (by rfl) 45 [.tmp 32, .tmp 37] _ [.agg #[.slice (some ⟨g, 0, none⟩) nw cap, .string x], .int .i64 (tn : Int)] (by rfl) (by rfl) (callPoint _ _) (fun v w' => ∃ (p1 p2 : Int) (p3 p4 : ByteArray) (b : Bool), v = .tuple #[.agg #[.int .i64 p1, .int .i64 p2, .string p3, .string p4, .bool false], .bool b] ∧ Hid (((b = true ∧ pntW tn ws x.data.toList = some ⟨0, p1, p2, p3.data.toList, p4.data.toList, false, 0, []⟩) ∨ (b = false ∧ pntW tn ws x.data.toList = none)) ∧ Below Y.drew.heap.size Y.drew w')) (HC.mono fun _ _ q => by obtain ⟨p1, p2, p3, p4, b, rfl, hq⟩ := q; exact ⟨_, rfl, p1, p2, p3, p4, b, rfl, hq⟩) ?_; rintro v5 w5 ⟨p1, p2, p3, p4, b, rfl, hq⟩; have HI5 : Hid (CmI w w5 w3.heap.size [.int .i64 (kn : Int), .int .i64 0, .int .i64 0, .string ⟨#[]⟩, .string ⟨#[]⟩, .bool false, .int .i64 0, .string ⟨#[]⟩]) := HI4.out.next ((Below.refl _ Y).drew.trans hq.out.2); obtain ⟨⟨r0, s0⟩, ⟨r1, s1⟩, ⟨r2, s2⟩, ⟨r3, s3⟩, ⟨r4, s4⟩, ⟨r5, s5⟩, ⟨r6, s6⟩, ⟨r7, s7⟩⟩ := HI5.out.f4.cell8)
        | fail)
      all_goals
        have HI7 : Hid (CmI w (((((w5.setCell ⟨w3.heap.size, 1, none⟩ (.int .i64 p1)).setCell ⟨w3.heap.size, 2, none⟩ (.int .i64 p2)).setCell ⟨w3.heap.size, 3, none⟩ (.string p3)).setCell ⟨w3.heap.size, 4, none⟩ (.string p4)).setCell ⟨w3.heap.size, 5, none⟩ (.bool false)) w3.heap.size [.int .i64 (kn : Int), .int .i64 p1, .int .i64 p2, .string p3, .string p4, .bool false, .int .i64 0, .string ⟨#[]⟩]) :=
          ⟨((((HI5.out.f1.other1 (by show w.heap.size + 1 ≠ w3.heap.size; omega)).other1 (by show w.heap.size + 1 ≠ w3.heap.size; omega)).other1 (by show w.heap.size + 1 ≠ w3.heap.size; omega)).other1 (by show w.heap.size + 1 ≠ w3.heap.size; omega)).other1 (by show w.heap.size + 1 ≠ w3.heap.size; omega),
           Full.put1 (a := [.int .i64 (kn : Int), .int .i64 p1, .int .i64 p2, .string p3, .string p4]) (Full.put1 (a := [.int .i64 (kn : Int), .int .i64 p1, .int .i64 p2, .string p3]) (Full.put1 (a := [.int .i64 (kn : Int), .int .i64 p1, .int .i64 p2]) (Full.put1 (a := [.int .i64 (kn : Int), .int .i64 p1]) (Full.put1 (a := [.int .i64 (kn : Int)]) HI5.out.f4 _) _) _) _) _,
           ((((HI5.out.b.setCell (p := ⟨w3.heap.size, 1, none⟩) (by show w.heap.size ≤ w3.heap.size; omega) _).setCell (p := ⟨w3.heap.size, 2, none⟩) (by show w.heap.size ≤ w3.heap.size; omega) _).setCell (p := ⟨w3.heap.size, 3, none⟩) (by show w.heap.size ≤ w3.heap.size; omega) _).setCell (p := ⟨w3.heap.size, 4, none⟩) (by show w.heap.size ≤ w3.heap.size; omega) _).setCell (p := ⟨w3.heap.size, 5, none⟩) (by show w.heap.size ≤ w3.heap.size; omega) _⟩
        obtain ⟨W7, hW7⟩ : ∃ W7, ((((w5.setCell ⟨w3.heap.size, 1, none⟩ (.int .i64 p1)).setCell ⟨w3.heap.size, 2, none⟩ (.int .i64 p2)).setCell ⟨w3.heap.size, 3, none⟩ (.string p3)).setCell ⟨w3.heap.size, 4, none⟩ (.string p4)).setCell ⟨w3.heap.size, 5, none⟩ (.bool false) = W7 := ⟨_, rfl⟩
        rw [hW7] at HI7 ⊢
        clear hW7 r0 r1 r2 r3 r4 r5 r6 r7 s0 s1 s2 s3 s4 s5 s6 s7
        obtain ⟨⟨g0, k0⟩, ⟨g1, k1⟩, ⟨g2, k2⟩, ⟨g3, k3⟩, ⟨g4, k4⟩, ⟨g5, k5⟩, ⟨g6, k6⟩, ⟨g7, k7⟩⟩ := HI7.out.f1.cell8
        obtain ⟨⟨r0, s0⟩, ⟨r1, s1⟩, ⟨r2, s2⟩, ⟨r3, s3⟩, ⟨r4, s4⟩, ⟨r5, s5⟩, ⟨r6, s6⟩, ⟨r7, s7⟩⟩ := HI7.out.f4.cell8
        go_wp2
        rcases hq.out.1 with ⟨rfl, hb⟩ | ⟨rfl, hb⟩
        · refine bodyPost_ret (by exact ret_cmd (HI7.out.f1.eight _ _ _ _ _ _ _ _) rfl rfl) (by rfl) ?_
          unfold CmP
          exact ⟨kn, p1, p2, p3, p4, 0, ⟨#[]⟩, true, rfl, .inl ⟨rfl, by rw [HP.out, hb]; rfl⟩, below_eight HI7.out.b (by omega) _ _ _ _ _ _ _ _⟩
        · refine bodyPost_ret (by exact ret_cmd (HI7.out.f1.eight _ _ _ _ _ _ _ _) rfl rfl) (by rfl) ?_
          unfold CmP
          exact ⟨kn, p1, p2, p3, p4, 0, ⟨#[]⟩, false, rfl, .inr ⟨rfl, by rw [HP.out, hb]; rfl⟩, below_eight HI7.out.b (by omega) _ _ _ _ _ _ _ _⟩
  by_cases h4 : tn = 4
  · have hP : cmdP ws x.data.toList = if (oneO numO ws).2 then some ⟨kn, 0, 0, [], [], false, (oneO numO ws).1, []⟩ else none := by
      rw [HP0.out, h4, HWL.out.2.1]
      cases wt with
      | nil => rfl
      | cons a b =>
        cases b with
        | nil => rfl
        | cons c d => rfl
    have HP : Hid _ := hP
    have HC := one_any numO 47 (by first | exact .inl rfl | exact .inr rfl) (fun s w h1 h2 => number_any s w h1 h2) hWs x hTb
    rw [HWL.out.1] at HC
    generalize oneO numO ws = N at HC HP
    obtain ⟨n, fl⟩ := N
    have q1 := (HB 1).2 (by omega)
    have q2 := (HB 2).2 (by omega)
    have q3 := (HB 3).2 (by omega)
    have q4 := (HB 4).1 h4
    have q5 := (HB 5).2 (by omega)
    have q6 := (HB 6).2 (by omega)
    clear hP HB h4 HP0 hWs hTb fb
    go_wp2_with fail
    refine HC.mono ?_
    rintro e w5 ⟨rfl, hb5⟩
    clear HC
    have HI5 : Hid (CmI w (w5.setCell ⟨w3.heap.size, 6, none⟩ (.int .i64 n)) w3.heap.size [.int .i64 (kn : Int), .int .i64 0, .int .i64 0, .string ⟨#[]⟩, .string ⟨#[]⟩, .bool false, .int .i64 n, .string ⟨#[]⟩]) := by
      have h := HI4.out.next hb5
      exact ⟨h.f1.other1 (by show w.heap.size + 1 ≠ w3.heap.size; omega), Full.put1 (a := [.int .i64 (kn : Int), .int .i64 0, .int .i64 0, .string ⟨#[]⟩, .string ⟨#[]⟩, .bool false]) h.f4 _, h.b.setCell (p := ⟨w3.heap.size, 6, none⟩) (by show w.heap.size ≤ w3.heap.size; omega) _⟩
    clear g0 g1 g2 g3 g4 g5 g6 g7 k0 k1 k2 k3 k4 k5 k6 k7 r0 r1 r2 r3 r4 r5 r6 r7 s0 s1 s2 s3 s4 s5 s6 s7
    obtain ⟨⟨g0, k0⟩, ⟨g1, k1⟩, ⟨g2, k2⟩, ⟨g3, k3⟩, ⟨g4, k4⟩, ⟨g5, k5⟩, ⟨g6, k6⟩, ⟨g7, k7⟩⟩ := (HI4.out.next hb5).f1.cell8
    obtain ⟨⟨r0, s0⟩, ⟨r1, s1⟩, ⟨r2, s2⟩, ⟨r3, s3⟩, ⟨r4, s4⟩, ⟨r5, s5⟩, ⟨r6, s6⟩, ⟨r7, s7⟩⟩ := (HI4.out.next hb5).f4.cell8
    have hzz : ¬ w.heap.size + 1 = w3.heap.size := by omega
    go_wp2
    cases fl
    · refine bodyPost_ret (by exact ret_cmd (HI5.out.f1.eight _ _ _ _ _ _ _ _) rfl rfl) (by rfl) ?_
      unfold CmP
      exact ⟨kn, 0, 0, ⟨#[]⟩, ⟨#[]⟩, n, ⟨#[]⟩, false, rfl, .inr ⟨rfl, by rw [HP.out]; rfl⟩, below_eight HI5.out.b (by omega) _ _ _ _ _ _ _ _⟩
    · refine bodyPost_ret (by exact ret_cmd (HI5.out.f1.eight _ _ _ _ _ _ _ _) rfl rfl) (by rfl) ?_
      unfold CmP
      exact ⟨kn, 0, 0, ⟨#[]⟩, ⟨#[]⟩, n, ⟨#[]⟩, true, rfl, .inl ⟨rfl, by rw [HP.out]; rfl⟩, below_eight HI5.out.b (by omega) _ _ _ _ _ _ _ _⟩
  by_cases h5 : tn = 5
  · have hP : cmdP ws x.data.toList = if (oneO posO ws).2 then some ⟨kn, 0, 0, [], [], false, (oneO posO ws).1, []⟩ else none := by
      rw [HP0.out, h5, HWL.out.2.1]
      cases wt with
      | nil => rfl
      | cons a b =>
        cases b with
        | nil => rfl
        | cons c d => rfl
    have HP : Hid _ := hP
    have HC := one_any posO 48 (by first | exact .inl rfl | exact .inr rfl) (fun s w h1 h2 => position_any s w h1 h2) hWs x hTb
    rw [HWL.out.1] at HC
    generalize oneO posO ws = N at HC HP
    obtain ⟨n, fl⟩ := N
    have q1 := (HB 1).2 (by omega)
    have q2 := (HB 2).2 (by omega)
    have q3 := (HB 3).2 (by omega)
    have q4 := (HB 4).2 (by omega)
    have q5 := (HB 5).1 h5
    have q6 := (HB 6).2 (by omega)
    clear hP HB h5 HP0 hWs hTb fb
    go_wp2_with fail
    refine HC.mono ?_
    rintro e w5 ⟨rfl, hb5⟩
    clear HC
    have HI5 : Hid (CmI w (w5.setCell ⟨w3.heap.size, 6, none⟩ (.int .i64 n)) w3.heap.size [.int .i64 (kn : Int), .int .i64 0, .int .i64 0, .string ⟨#[]⟩, .string ⟨#[]⟩, .bool false, .int .i64 n, .string ⟨#[]⟩]) := by
      have h := HI4.out.next hb5
      exact ⟨h.f1.other1 (by show w.heap.size + 1 ≠ w3.heap.size; omega), Full.put1 (a := [.int .i64 (kn : Int), .int .i64 0, .int .i64 0, .string ⟨#[]⟩, .string ⟨#[]⟩, .bool false]) h.f4 _, h.b.setCell (p := ⟨w3.heap.size, 6, none⟩) (by show w.heap.size ≤ w3.heap.size; omega) _⟩
    clear g0 g1 g2 g3 g4 g5 g6 g7 k0 k1 k2 k3 k4 k5 k6 k7 r0 r1 r2 r3 r4 r5 r6 r7 s0 s1 s2 s3 s4 s5 s6 s7
    obtain ⟨⟨g0, k0⟩, ⟨g1, k1⟩, ⟨g2, k2⟩, ⟨g3, k3⟩, ⟨g4, k4⟩, ⟨g5, k5⟩, ⟨g6, k6⟩, ⟨g7, k7⟩⟩ := (HI4.out.next hb5).f1.cell8
    obtain ⟨⟨r0, s0⟩, ⟨r1, s1⟩, ⟨r2, s2⟩, ⟨r3, s3⟩, ⟨r4, s4⟩, ⟨r5, s5⟩, ⟨r6, s6⟩, ⟨r7, s7⟩⟩ := (HI4.out.next hb5).f4.cell8
    have hzz : ¬ w.heap.size + 1 = w3.heap.size := by omega
    go_wp2
    cases fl
    · refine bodyPost_ret (by exact ret_cmd (HI5.out.f1.eight _ _ _ _ _ _ _ _) rfl rfl) (by rfl) ?_
      unfold CmP
      exact ⟨kn, 0, 0, ⟨#[]⟩, ⟨#[]⟩, n, ⟨#[]⟩, false, rfl, .inr ⟨rfl, by rw [HP.out]; rfl⟩, below_eight HI5.out.b (by omega) _ _ _ _ _ _ _ _⟩
    · refine bodyPost_ret (by exact ret_cmd (HI5.out.f1.eight _ _ _ _ _ _ _ _) rfl rfl) (by rfl) ?_
      unfold CmP
      exact ⟨kn, 0, 0, ⟨#[]⟩, ⟨#[]⟩, n, ⟨#[]⟩, true, rfl, .inl ⟨rfl, by rw [HP.out]; rfl⟩, below_eight HI5.out.b (by omega) _ _ _ _ _ _ _ _⟩
  by_cases h6 : tn = 6
  · have hP : cmdP ws x.data.toList = if x.data.toList = [] then none else some ⟨kn, 0, 0, [], [], false, 0, x.data.toList⟩ := by
      rw [HP0.out, if_neg h1, if_neg h23, if_neg h4, if_neg h5, if_pos h6]; rfl
    have HP : Hid _ := hP
    have hsz := Lib.size_eq x
    have HCl : Hid (∀ W : World, Calls Tryz.prog 31 #[.string x] W fun e w' => e = .returned (.string x) ∧ Below W.heap.size W w') := fun W => Lx.clone_any x W (by omega)
    have q1 := (HB 1).2 (by omega)
    have q2 := (HB 2).2 (by omega)
    have q3 := (HB 3).2 (by omega)
    have q4 := (HB 4).2 (by omega)
    have q5 := (HB 5).2 (by omega)
    have q6 := (HB 6).1 h6
    clear hP HB h6 HP0 hWs hTb fb h1 h23 h4 h5 hsz
    go_upto_region 16 with fail
    generalize w3.alloc (.cells #[.int .i64 (kn : Int), .int .i64 0, .int .i64 0, .string ⟨#[]⟩, .string ⟨#[]⟩, .bool false, .int .i64 0, .string ⟨#[]⟩] 51) = Y at *
    have dx : Y.drew.cell? ⟨w.heap.size, 1, none⟩ = some (.string x) := c1
    have HI5 : Hid (∀ w5, Below Y.drew.heap.size Y.drew w5 → CmI w w5 w3.heap.size [.int .i64 (kn : Int), .int .i64 0, .int .i64 0, .string ⟨#[]⟩, .string ⟨#[]⟩, .bool false, .int .i64 0, .string ⟨#[]⟩] ∧ w5.cell? ⟨w.heap.size, 1, none⟩ = some (.string x)) := fun w5 hb5 => by
      have hb : Below Y.heap.size Y w5 := (Below.refl _ Y).drew.trans hb5
      exact ⟨HI4.out.next hb, ((HG.out w5 hb).1.cell 1 _ rfl).1⟩
    clear g0 g1 g2 g3 g4 g5 g6 g7 k0 k1 k2 k3 k4 k5 k6 k7 r0 r1 r2 r3 r4 r5 r6 r7 s0 s1 s2 s3 s4 s5 s6 s7
    by_cases hx : x.data.toList = []
    · have e0 : (x.toList == []) = true := by rw [Lx.toL, hx]; rfl
      have HP2 : Hid (cmdP ws x.data.toList = none) := by
        show cmdP ws x.data.toList = none
        rw [HP.out, if_pos hx]
      clear hx HP
      go_region_law (first
        | (refine step_call (by rfl) 31 [.tmp 61] _ [.string x] (by rfl) (by rfl) (callClone _) (fun v w' => v = .string x ∧ Hid (Below Y.drew.heap.size Y.drew w')) ((HCl.out Y.drew).mono fun _ _ q => ⟨_, q.1, rfl, q.2⟩) ?_; rintro v5 w5 ⟨rfl, hb5⟩; obtain ⟨hi5, hx5⟩ := HI5.out w5 hb5.out; obtain ⟨⟨r0, s0⟩, ⟨r1, s1⟩, ⟨r2, s2⟩, ⟨r3, s3⟩, ⟨r4, s4⟩, ⟨r5, s5⟩, ⟨r6, s6⟩, ⟨r7, s7⟩⟩ := hi5.f4.cell8; have HI6 : Hid _ := hi5; clear hi5)
        | fail)
      all_goals
        have HI7 : Hid (CmI w (w5.setCell ⟨w3.heap.size, 7, none⟩ (.string x)) w3.heap.size [.int .i64 (kn : Int), .int .i64 0, .int .i64 0, .string ⟨#[]⟩, .string ⟨#[]⟩, .bool false, .int .i64 0, .string x]) := ⟨HI6.out.f1.other1 (by show w.heap.size + 1 ≠ w3.heap.size; omega), Full.put1 (a := [.int .i64 (kn : Int), .int .i64 0, .int .i64 0, .string ⟨#[]⟩, .string ⟨#[]⟩, .bool false, .int .i64 0]) HI6.out.f4 _, HI6.out.b.setCell (p := ⟨w3.heap.size, 7, none⟩) (by show w.heap.size ≤ w3.heap.size; omega) _⟩
        obtain ⟨W7, hW7⟩ : ∃ W7, w5.setCell ⟨w3.heap.size, 7, none⟩ (.string x) = W7 := ⟨_, rfl⟩
        rw [hW7] at HI7 ⊢
        clear hW7 r0 r1 r2 r3 r4 r5 r6 r7 s0 s1 s2 s3 s4 s5 s6 s7
        obtain ⟨⟨g0, k0⟩, ⟨g1, k1⟩, ⟨g2, k2⟩, ⟨g3, k3⟩, ⟨g4, k4⟩, ⟨g5, k5⟩, ⟨g6, k6⟩, ⟨g7, k7⟩⟩ := HI7.out.f1.cell8
        obtain ⟨⟨r0, s0⟩, ⟨r1, s1⟩, ⟨r2, s2⟩, ⟨r3, s3⟩, ⟨r4, s4⟩, ⟨r5, s5⟩, ⟨r6, s6⟩, ⟨r7, s7⟩⟩ := HI7.out.f4.cell8
        go_wp2
        refine bodyPost_ret (by exact ret_cmd (HI7.out.f1.eight _ _ _ _ _ _ _ _) rfl rfl) (by rfl) ?_
        unfold CmP
        exact ⟨kn, 0, 0, ⟨#[]⟩, ⟨#[]⟩, 0, x, false, rfl, .inr ⟨rfl, HP2.out⟩, below_eight HI7.out.b (by omega) _ _ _ _ _ _ _ _⟩
    · have e0 : (x.toList == []) = false := by rw [Lx.toL, beq_eq_false_iff_ne]; exact hx
      have HP2 : Hid (cmdP ws x.data.toList = some ⟨kn, 0, 0, [], [], false, 0, x.data.toList⟩) := by
        show cmdP ws x.data.toList = _
        rw [HP.out, if_neg hx]
      clear hx HP
      go_region_law (first
        | (refine step_call (by rfl) 31 [.tmp 61] _ [.string x] (by rfl) (by rfl) (callClone _) (fun v w' => v = .string x ∧ Hid (Below Y.drew.heap.size Y.drew w')) ((HCl.out Y.drew).mono fun _ _ q => ⟨_, q.1, rfl, q.2⟩) ?_; rintro v5 w5 ⟨rfl, hb5⟩; obtain ⟨hi5, hx5⟩ := HI5.out w5 hb5.out; obtain ⟨⟨r0, s0⟩, ⟨r1, s1⟩, ⟨r2, s2⟩, ⟨r3, s3⟩, ⟨r4, s4⟩, ⟨r5, s5⟩, ⟨r6, s6⟩, ⟨r7, s7⟩⟩ := hi5.f4.cell8; have HI6 : Hid _ := hi5; clear hi5)
        | fail)
      all_goals
        have HI7 : Hid (CmI w (w5.setCell ⟨w3.heap.size, 7, none⟩ (.string x)) w3.heap.size [.int .i64 (kn : Int), .int .i64 0, .int .i64 0, .string ⟨#[]⟩, .string ⟨#[]⟩, .bool false, .int .i64 0, .string x]) := ⟨HI6.out.f1.other1 (by show w.heap.size + 1 ≠ w3.heap.size; omega), Full.put1 (a := [.int .i64 (kn : Int), .int .i64 0, .int .i64 0, .string ⟨#[]⟩, .string ⟨#[]⟩, .bool false, .int .i64 0]) HI6.out.f4 _, HI6.out.b.setCell (p := ⟨w3.heap.size, 7, none⟩) (by show w.heap.size ≤ w3.heap.size; omega) _⟩
        obtain ⟨W7, hW7⟩ : ∃ W7, w5.setCell ⟨w3.heap.size, 7, none⟩ (.string x) = W7 := ⟨_, rfl⟩
        rw [hW7] at HI7 ⊢
        clear hW7 r0 r1 r2 r3 r4 r5 r6 r7 s0 s1 s2 s3 s4 s5 s6 s7
        obtain ⟨⟨g0, k0⟩, ⟨g1, k1⟩, ⟨g2, k2⟩, ⟨g3, k3⟩, ⟨g4, k4⟩, ⟨g5, k5⟩, ⟨g6, k6⟩, ⟨g7, k7⟩⟩ := HI7.out.f1.cell8
        obtain ⟨⟨r0, s0⟩, ⟨r1, s1⟩, ⟨r2, s2⟩, ⟨r3, s3⟩, ⟨r4, s4⟩, ⟨r5, s5⟩, ⟨r6, s6⟩, ⟨r7, s7⟩⟩ := HI7.out.f4.cell8
        go_wp2
        refine bodyPost_ret (by exact ret_cmd (HI7.out.f1.eight _ _ _ _ _ _ _ _) rfl rfl) (by rfl) ?_
        unfold CmP
        exact ⟨kn, 0, 0, ⟨#[]⟩, ⟨#[]⟩, 0, x, true, rfl, .inl ⟨rfl, HP2.out⟩, below_eight HI7.out.b (by omega) _ _ _ _ _ _ _ _⟩
  have hP : cmdP ws x.data.toList = none := by
    rw [HP0.out, if_neg h1, if_neg h23, if_neg h4, if_neg h5, if_neg h6]
  have HP : Hid _ := hP
  have q1 := (HB 1).2 (by omega)
  have q2 := (HB 2).2 (by omega)
  have q3 := (HB 3).2 (by omega)
  have q4 := (HB 4).2 (by omega)
  have q5 := (HB 5).2 (by omega)
  have q6 := (HB 6).2 (by omega)
  clear hP HB h1 h23 h4 h5 h6 HP0 hWs hTb fb
  go_wp2
  refine bodyPost_ret (by exact ret_cmd (HI4.out.f1.eight _ _ _ _ _ _ _ _) rfl rfl) (by rfl) ?_
  unfold CmP
  exact ⟨kn, 0, 0, ⟨#[]⟩, ⟨#[]⟩, 0, ⟨#[]⟩, false, rfl, .inr ⟨rfl, HP.out⟩, below_eight HI4.out.b (by omega) _ _ _ _ _ _ _ _⟩
end Go.Proofs.YtichbejmelkjeaaGreatDoor

namespace Go.Proofs.YtichbejmelkjeaaGreatDoor
open Go.RowKit

theorem wrd_le (l : List UInt8) : (wrd l).length ≤ l.length := by rw [wrd_len]; exact wln_le l
theorem nxt_le (l : List UInt8) : (nxt l).length ≤ l.length := by
  unfold nxt; exact Nat.le_trans (trm_len _) (by rw [List.length_drop]; omega)
theorem tkn_sm : ∀ (f n : Nat) (ws : List (List UInt8)) (r : List UInt8), r.length ≤ n → (∀ x ∈ ws, x.length ≤ n) → (∀ x ∈ (tkn f ws r).1, x.length ≤ n) ∧ (tkn f ws r).2.length ≤ n := by
  intro f
  induction f with
  | zero => intro n ws r hr hw; exact ⟨hw, hr⟩
  | succ f ih =>
    intro n ws r hr hw
    have hw2 : ∀ x ∈ ws ++ [wrd r], x.length ≤ n := fun x hx => by
      rcases List.mem_append.1 hx with h | h
      · exact hw x h
      · rw [List.mem_singleton.1 h]; exact Nat.le_trans (wrd_le r) hr
    have hn : (nxt r).length ≤ n := Nat.le_trans (nxt_le r) hr
    unfold tkn
    split
    · exact ⟨hw, by simp⟩
    · split
      · exact ⟨hw2, hn⟩
      · exact ih n _ _ hn hw2

/-- What Parse answers. -/
def PaP (w : World) (l : List UInt8) (e : Ending) (w' : World) : Prop :=
  ∃ (k a1 a2 : Int) (a3 a4 : ByteArray) (a6 : Int) (a7 : ByteArray) (er : Int), e = .returned (.tuple #[.agg #[.int .i64 k, .int .i64 a1, .int .i64 a2, .string a3, .string a4, .bool false, .int .i64 a6, .string a7], .int .i64 er]) ∧ Hid (((er = 0 ∧ parP l = some ⟨k, a1, a2, a3.data.toList, a4.data.toList, false, a6, a7.data.toList⟩) ∨ (er = 230 ∧ parP l = none ∧ k = 0 ∧ a1 = 0 ∧ a2 = 0 ∧ a3 = ⟨#[]⟩ ∧ a4 = ⟨#[]⟩ ∧ a6 = 0 ∧ a7 = ⟨#[]⟩)) ∧ Below w.heap.size w w')
theorem ret_parse {w : World} {B : Nat} {x0 x1 x2 x3 x4 x5 x6 x7 x : Value} {tm : Array Value} (hf : Full w B 51 [x0, x1, x2, x3, x4, x5, x6, x7]) (h2 : tm[2]?.getD undef = .pointer (some ⟨B, 0, none⟩)) (h3 : tm[3]?.getD undef = x) :
    (results Tryz.f13 tm).run Tryz.prog w = .ok (.tuple #[.agg #[x0, x1, x2, x3, x4, x5, x6, x7], x]) w := by
  obtain ⟨⟨c0, -⟩, ⟨c1, -⟩, ⟨c2, -⟩, ⟨c3, -⟩, ⟨c4, -⟩, ⟨c5, -⟩, ⟨c6, -⟩, ⟨c7, -⟩⟩ := hf.cell8
  simp [results, Tryz.results13, go_sem, h2, h3, c0, c1, c2, c3, c4, c5, c6, c7]

set_option maxRecDepth 100000 in
set_option maxHeartbeats 4000000 in
theorem parse_any (s : ByteArray) (w : World) (hT : Tb w) : Calls Tryz.prog 13 #[.string s] w (PaP w s.data.toList) := by
  have hsz := Lib.size_eq s
  obtain ⟨X1, hX1⟩ : ∃ X1, w.alloc (.cells #[.int .i64 0, .int .i64 0, .int .i64 0, .string ⟨#[]⟩, .string ⟨#[]⟩, .bool false, .int .i64 0, .string ⟨#[]⟩] 51) = X1 := ⟨_, rfl⟩
  have b1 : Below w.heap.size w X1 := by rw [← hX1]; exact (Below.refl _ w).alloc (Nat.le_refl _) _
  have f1 : Full X1 w.heap.size 51 [.int .i64 0, .int .i64 0, .int .i64 0, .string ⟨#[]⟩, .string ⟨#[]⟩, .bool false, .int .i64 0, .string ⟨#[]⟩] := by rw [← hX1]; exact Full.new w _ _
  have HF : Hid (∀ W, Below X1.heap.size X1 W → Full W w.heap.size 51 [.int .i64 0, .int .i64 0, .int .i64 0, .string ⟨#[]⟩, .string ⟨#[]⟩, .bool false, .int .i64 0, .string ⟨#[]⟩] ∧ Below w.heap.size w W ∧ Tb W) := fun W h => ⟨f1.next h, b1.trans (h.mono b1.size), hT.next (b1.trans (h.mono b1.size))⟩
  have hTX := hT.next b1
  by_cases hlong : 300 < s.size
  · have HP : Hid (parP s.data.toList = none) := by
      show parP s.data.toList = none
      unfold parP; rw [if_pos (.inl (by omega))]
    have hl1 : (300 : Int) < (s.size : Int) := by omega
    obtain ⟨⟨g0, k0⟩, ⟨g1, k1⟩, ⟨g2, k2⟩, ⟨g3, k3⟩, ⟨g4, k4⟩, ⟨g5, k5⟩, ⟨g6, k6⟩, ⟨g7, k7⟩⟩ := f1.cell8
    have HG : Hid _ := HF.out X1 (Below.refl _ _)
    clear hT hTX f1 b1 hsz HF
    go_enter Tryz.func13, Tryz.ntmps13
    go_wp2
    refine bodyPost_ret (by exact ret_parse (HG.out.1.eight _ _ _ _ _ _ _ _) rfl rfl) (by rfl) ?_
    unfold PaP
    exact ⟨0, 0, 0, ⟨#[]⟩, ⟨#[]⟩, 0, ⟨#[]⟩, 230, rfl, .inr ⟨rfl, HP.out, rfl, rfl, rfl, rfl, rfl, rfl, rfl⟩, below_eight HG.out.2.1 (Nat.le_refl _) _ _ _ _ _ _ _ _⟩
  · have hl1 : ¬ (300 : Int) < (s.size : Int) := by omega
    have HL := lineFeed_any s X1
    by_cases h10 : (10 : UInt8) ∈ s.data.toList
    · have HP : Hid (parP s.data.toList = none) := by
        show parP s.data.toList = none
        unfold parP; rw [if_pos (.inr h10)]
      rw [decide_eq_true h10] at HL
      clear hT hTX f1 b1 hsz h10
      go_enter Tryz.func13, Tryz.ntmps13
      go_wp2_with fail
      refine HL.mono ?_
      rintro e w2 ⟨rfl, hb2⟩
      have HG : Hid _ := HF.out w2 hb2
      obtain ⟨⟨g0, k0⟩, ⟨g1, k1⟩, ⟨g2, k2⟩, ⟨g3, k3⟩, ⟨g4, k4⟩, ⟨g5, k5⟩, ⟨g6, k6⟩, ⟨g7, k7⟩⟩ := HG.out.1.cell8
      clear HL HF hb2
      go_wp2
      refine bodyPost_ret (by exact ret_parse (HG.out.1.eight _ _ _ _ _ _ _ _) rfl rfl) (by rfl) ?_
      unfold PaP
      exact ⟨0, 0, 0, ⟨#[]⟩, ⟨#[]⟩, 0, ⟨#[]⟩, 230, rfl, .inr ⟨rfl, HP.out, rfl, rfl, rfl, rfl, rfl, rfl, rfl⟩, below_eight HG.out.2.1 (Nat.le_refl _) _ _ _ _ _ _ _ _⟩
    · have hP : parP s.data.toList = (fun x => cmdP x.1 x.2) (tkn (s.data.toList.length + 1) [] (trm s.data.toList)) := by
        unfold parP; rw [if_neg (by rintro (h | h); omega; exact h10 h)]
      have hsm := tkn_sm (s.data.toList.length + 1) 300 [] (trm s.data.toList) (Nat.le_trans (trm_len _) (by omega)) (by simp)
      have HK : Hid (∀ W, Tb W → Calls Tryz.prog 25 #[.string s] W _) := fun W hW => taken_any s W (by omega) hW
      rw [decide_eq_false h10] at HL
      generalize tkn (s.data.toList.length + 1) [] (trm s.data.toList) = R at hP hsm HK
      have HP : Hid _ := hP
      have HSm : Hid _ := hsm
      clear hT hTX f1 b1 hsz h10 hP hsm
      go_enter Tryz.func13, Tryz.ntmps13
      go_wp2_with fail
      refine HL.mono ?_
      rintro e w2 ⟨rfl, hb2⟩
      clear HL
      have HK2 := HK.out w2 (HF.out w2 hb2).2.2
      go_wp2_with fail
      refine HK2.mono ?_
      rintro e w3 ⟨v, x, rfl, hq⟩
      clear HK HK2
      obtain ⟨hx, ho, hb3⟩ := hq.out
      obtain ⟨q, cap, rfl, hcap, hr⟩ := own_slice ho
      have hb13 : Below X1.heap.size X1 w3 := hb2.trans (hb3.mono hb2.size)
      have hA : WsA w3 q cap R.1 := ⟨hcap, hr, HSm.out.1⟩
      have HC := command_any hA x (by rw [Lib.size_eq, hx]; exact HSm.out.2) (HF.out w3 hb13).2.2
      clear hA hr ho hcap hq HSm hb3
      go_wp2_with fail
      refine HC.mono ?_
      rintro e w4 ⟨k, a1, a2, a3, a4, a6, a7, b, rfl, hq4⟩
      clear HC
      obtain ⟨W5, hW5⟩ : ∃ W5, w4.alloc (.cells #[.int .i64 k, .int .i64 a1, .int .i64 a2, .string a3, .string a4, .bool false, .int .i64 a6, .string a7] 51) = W5 := ⟨_, rfl⟩
      have f5 : Full W5 w4.heap.size 51 [.int .i64 k, .int .i64 a1, .int .i64 a2, .string a3, .string a4, .bool false, .int .i64 a6, .string a7] := by rw [← hW5]; exact Full.new w4 _ _
      have hb14 : Below X1.heap.size X1 w4 := hb13.trans (hq4.out.2.mono hb13.size)
      have HG : Hid _ := HF.out W5 (by rw [← hW5]; exact hb14.alloc hb14.size _)
      rw [hx] at hq4
      have HQ : Hid _ := hq4.out.1
      clear hb2 hb13 hb14 hq4 HF hx
      subst hW5
      rcases HQ.out with ⟨rfl, hc⟩ | ⟨rfl, hc⟩
      · have HC2 : Hid _ := hc
        clear hc HQ
        obtain ⟨⟨g0, k0⟩, ⟨g1, k1⟩, ⟨g2, k2⟩, ⟨g3, k3⟩, ⟨g4, k4⟩, ⟨g5, k5⟩, ⟨g6, k6⟩, ⟨g7, k7⟩⟩ := HG.out.1.cell8
        obtain ⟨⟨r0, -⟩, ⟨r1, -⟩, ⟨r2, -⟩, ⟨r3, -⟩, ⟨r4, -⟩, ⟨r5, -⟩, ⟨r6, -⟩, ⟨r7, -⟩⟩ := f5.cell8
        go_wp2
        refine bodyPost_ret (by exact ret_parse (HG.out.1.eight _ _ _ _ _ _ _ _) rfl rfl) (by rfl) ?_
        unfold PaP
        exact ⟨k, a1, a2, a3, a4, a6, a7, 0, rfl, .inl ⟨rfl, by rw [HP.out]; exact HC2.out⟩, below_eight HG.out.2.1 (Nat.le_refl _) _ _ _ _ _ _ _ _⟩
      · have HC2 : Hid _ := hc
        clear hc HQ
        obtain ⟨⟨g0, k0⟩, ⟨g1, k1⟩, ⟨g2, k2⟩, ⟨g3, k3⟩, ⟨g4, k4⟩, ⟨g5, k5⟩, ⟨g6, k6⟩, ⟨g7, k7⟩⟩ := HG.out.1.cell8
        obtain ⟨⟨r0, -⟩, ⟨r1, -⟩, ⟨r2, -⟩, ⟨r3, -⟩, ⟨r4, -⟩, ⟨r5, -⟩, ⟨r6, -⟩, ⟨r7, -⟩⟩ := f5.cell8
        go_wp2
        refine bodyPost_ret (by exact ret_parse (HG.out.1.eight _ _ _ _ _ _ _ _) rfl rfl) (by rfl) ?_
        unfold PaP
        exact ⟨0, 0, 0, ⟨#[]⟩, ⟨#[]⟩, 0, ⟨#[]⟩, 230, rfl, .inr ⟨rfl, by rw [HP.out]; exact HC2.out, rfl, rfl, rfl, rfl, rfl, rfl, rfl⟩, below_eight HG.out.2.1 (Nat.le_refl _) _ _ _ _ _ _ _ _⟩
end Go.Proofs.YtichbejmelkjeaaGreatDoor
