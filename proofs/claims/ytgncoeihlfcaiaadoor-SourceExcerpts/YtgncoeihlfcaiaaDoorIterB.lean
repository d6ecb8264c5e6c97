import Derived.Test.YtgncoeihlfcaiaaDoorIter
namespace Go.Proofs.YtgncoeihlfcaiaaDoor
open Go.RowKit Go.Shelf
attribute [local go_sem] Oper.semAt_some

/-- A row whose line is no longer than a text may be: what a round may know of what it is handed. -/
abbrev RowB := { x : Nat × ByteArray // x.2.size ≤ 140737488355328 }
abbrev encb (x : RowB) : Array Value := #[.int .i64 (x.1.1 : Int), .string x.1.2]

set_option maxRecDepth 100000 in
set_option maxHeartbeats 2000000 in
theorem it_stops_b (n : Nat) (hn : 1 ≤ n) (Bt : Nat) (s : ByteArray) (w : World) (hs : s.size ≤ 140737488355328)
    (hlt : Bt < w.heap.size) (hb : w.cell? ⟨Bt, 0, none⟩ = some (.string s)) :
    SeqStopsK Fence.wide n Tryd.prog 21 #[.pointer (some ⟨Bt, 0, none⟩)] encb (fun _ _ => True) (fun xs => xs.map Subtype.val = Src.rows 1 (Src.lns s.data.toList)) (fun pre => pre.map Subtype.val <+: Src.rows 1 (Src.lns s.data.toList)) (s.size + 1) w := fun l J Jx W hW hJ hJx hY h0 => by
  have hbW : W.cell? ⟨Bt, 0, none⟩ = some (.string s) := (hW.cell (p := ⟨Bt, 0, none⟩) hlt).trans hb
  have HJ : Hid (AbidesFrom W.heap.size J) := hJ
  clear hJ hJx
  generalize hxs : Src.rows 1 (Src.lns s.data.toList) = xs
  have HX : Hid (Src.rows 1 (Src.lns s.data.toList) = xs) := hxs
  clear hxs
  refine callsIn_of_wp Tryd.func21 rfl trivial ?_ rfl
  simp only [Tryd.ntmps21, List.size_toArray, List.length_cons, List.length_nil, Nat.reduceAdd, Nat.reduceSub, Array.replicate_succ, Array.replicate_zero, List.push_toArray, List.append_toArray, List.nil_append, List.cons_append]
  gi_wp2
  gi_loopw [3, 4] (fun r k wr => ∃ (pre : List RowB) (t : ByteArray), r = .string t ∧ k = .int .i64 ((pre.length + 1 : Nat) : Int) ∧ Hid (xs = pre.map Subtype.val ++ Src.rows ((pre.map Subtype.val).length + 1) (Src.lns t.data.toList)) ∧ pre.length + t.size ≤ s.size ∧ J pre wr) (fun r _ _ => strLen r)
  case atStart => exact ⟨[], s, rfl, rfl, HX.out.symm, by simp, h0⟩
  case round =>
    obtain ⟨pre, t, rfl, rfl, hx, hle, hJs⟩ := hrel
    clear hW hbW hb
    have hge := Lib.indexByte_ge t.data.toList 10
    by_cases hm : Lib.indexByte t.data.toList 10 = -1
    · have HM : Hid (Lib.indexByte t.data.toList 10 = -1) := hm
      clear hm hge
      obtain ⟨fn, tmps, assign, body, hy, hR⟩ := hY pre ⟨(pre.length + 1, t), by show t.size ≤ 140737488355328; omega⟩ wr hJs (by omega)
      dsimp only [encb] at hy
      push_cast at hy
      gi_wp2_with (refine ⟨trivial, ?_⟩; gi_at_call 22; refine (callsIn_wide.2 (cut_miss _ _ HM.out)).mono ?_; rintro e w' ⟨rfl, rfl⟩)
      have hxe := rows_miss (pre.map Subtype.val) t xs hx.out HM.out
      rw [List.length_map] at hxe
      refine hR.mono ?_
      rintro e W3 (⟨rfl, hJ3, _⟩ | ⟨rfl, hJx3⟩)
      · gi_wp2
        refine bodyPost_ret (results_none rfl _ _ _) rfl ?_
        exact ⟨⟨_, rfl⟩, .inl ⟨_, by rw [List.map_append]; exact hxe.symm, hJ3⟩⟩
      · gi_wp2
        refine bodyPost_ret (results_none rfl _ _ _) rfl ?_
        exact ⟨⟨_, rfl⟩, .inr ⟨_, ⟨[], by rw [List.append_nil, List.map_append]; exact hxe.symm⟩, hJx3⟩⟩
    · obtain ⟨i, hi⟩ : ∃ i : Nat, Lib.indexByte t.data.toList 10 = i := ⟨(Lib.indexByte t.data.toList 10).toNat, by omega⟩
      have HM : Hid (Lib.indexByte t.data.toList 10 = i) := hi
      clear hm hge hi
      obtain ⟨hit, hxe⟩ := rows_hit (pre.map Subtype.val) t i xs hx.out HM.out
      have hti : (t.extract 0 i).size ≤ 140737488355328 := by rw [ByteArray.size_extract]; omega
      obtain ⟨xi, hxi⟩ : ∃ xi : RowB, xi = ⟨(pre.length + 1, t.extract 0 i), hti⟩ := ⟨_, rfl⟩
      have hxv : xi.1 = (pre.length + 1, t.extract 0 i) := by rw [hxi]
      have HE : Hid (xs = (pre ++ [xi]).map Subtype.val ++ Src.rows (((pre ++ [xi]).map Subtype.val).length + 1) (Src.lns (t.extract (i + 1) t.size).data.toList)) := by
        show xs = _
        rw [hxe]
        simp [hxv]
      have HXI : Hid (xi = ⟨(pre.length + 1, t.extract 0 i), hti⟩) := hxi
      have hya : encb xi = #[.int .i64 ((pre.length : Int) + 1), .string (t.extract 0 i)] := by rw [hxi]; simp [encb]
      have HYA : Hid (encb xi = #[.int .i64 ((pre.length : Int) + 1), .string (t.extract 0 i)]) := hya
      clear hxi hxv hya
      clear hxe
      gi_wp2_with (refine ⟨trivial, ?_⟩; gi_at_call 22; refine (callsIn_wide.2 (cut_hit _ i _ HM.out hit (by omega))).mono ?_; rintro e w' ⟨rfl, m, rfl⟩; obtain ⟨fn, tmps, assign, body, hy, hR⟩ := hY pre xi (wr.drewN m) (HJ.out _ _ _ none hJs (grown_drewN _ _ _) (fun _ e => by cases e)) (by omega); rw [HYA.out] at hy)
      refine hR.mono ?_
      rintro e W3 (⟨rfl, hJ3, _⟩ | ⟨rfl, hJx3⟩)
      · gi_wp2
        go_roundw
        case rel => exact ⟨pre ++ [xi], t.extract (i + 1) t.size, rfl, by simp, HE.out, by simp; omega, hJ3⟩
        case measure => simp [strLen]; omega
      · gi_wp2
        refine bodyPost_ret (results_none rfl _ _ _) rfl ?_
        exact ⟨⟨_, rfl⟩, .inr ⟨_, ⟨_, (HE.out).symm⟩, hJx3⟩⟩

end Go.Proofs.YtgncoeihlfcaiaaDoor
