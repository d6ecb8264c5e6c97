import Derived.Test.YtdcioemjmmhbhaaDoorBytes
namespace Go.Proofs.YtdcioemjmmhbhaaDoor
open Go.RowKit

theorem strCells_bv (s : ByteArray) : Lib.strCells s = bv s.data.toList := by simp [Lib.strCells, bv]
theorem run_appS (w : World) (ty : TypeId) (base g cap n : Nat) (l : List UInt8) (s : ByteArray) (hown : w.ownsRow base 5 1 (.slice (some ⟨g, 0, none⟩) n cap) n (bv l)) (hn : n + s.size ≤ 1000000000) (hb : base ≤ w.heap.size) :
    ∃ v' w', (Builtin.append_ #[87, 9] ty #[.slice (some ⟨g, 0, none⟩) n cap, .string s]).run Tryd.prog w = .ok v' w' ∧ w'.ownsRow base 5 1 v' (n + s.size) (bv (l ++ s.data.toList)) ∧ w.grownBy w' (some g) ∧ (v'.ownBlock = some g ∨ v'.ownBlock = some w.heap.size) := by
  obtain ⟨i0, hi, hz0, hz1, hz2⟩ := info_parts info5
  obtain ⟨v', w', hr, h2, h3, _⟩ := Lib.run_append_own_string (P := Tryd.prog) w base 87 9 ty 5 i0 Tryd.underlying87 Tryd.underlying9 hi hz0 hz1 hz2 _ n _ hown s (by unfold maxLen; omega) (by omega) hb
  refine ⟨v', w', hr, by rw [bv_app, ← strCells_bv]; exact h2, h3, ?_⟩
  rcases hown.2 with ⟨q, _⟩ | ⟨g', cap', cur, hv, hbg, hg, hnc, hcm, hcs, htake⟩
  · cases q
  · cases hv
    by_cases hroom : n + s.size ≤ cap
    · have hr2 := Lib.run_append_room_string (P := Tryd.prog) w 87 9 ty 5 i0 Tryd.underlying87 Tryd.underlying9 hi hz1 g n cap cur hg s hroom (by simp at hcs; omega)
      rw [hr] at hr2
      cases hr2
      exact .inl rfl
    · have hr2 := Lib.run_append_grow_string (P := Tryd.prog) w 87 9 ty 5 i0 (.int .u8 0) Tryd.underlying87 Tryd.underlying9 hi hz0 ⟨g, 0, none⟩ n cap (bv l) (by rw [hz1]; have := hown.1; omega) (hown.cells (g := g) rfl) s (by omega) (by omega) (by rw [hz2]; exact growslice_fits (by omega) (by omega))
      rw [hr] at hr2
      cases hr2
      exact .inr rfl

theorem step_appS {w : World} {ops : Array Oper} {o : Oper} {a : Act} {K : Act → World → Prop} {Q : Exit → Act → World → Prop} {E : Prop} (hgd : o.guard = none) (s x : Operand)
    (ho : o.op = .call { callee := .builtin .append, args := #[s, x], argTypes := #[87, 9] })
    (base g cap n : Nat) (l : List UInt8) (hs : a.eval s = .slice (some ⟨g, 0, none⟩) n cap) (hown : w.ownsRow base 5 1 (.slice (some ⟨g, 0, none⟩) n cap) n (bv l)) (t : ByteArray) (hx : a.eval x = .string t)
    (h40 : n + t.size ≤ 1000000000) (hbase : base ≤ w.heap.size)
    (h : ∀ v' w', Hid (w'.ownsRow base 5 1 v' (n + t.size) (bv (l ++ t.data.toList))) → Hid (w.grownBy w' (some g) ∧ (v'.ownBlock = some g ∨ v'.ownBlock = some w.heap.size)) → K (a.put o.dst v') w') : if Region.wanted o (yielded ops a.tmps) = true then Oper.wp Tryd.prog o a w K Q else E := by
  have hw : Region.wanted o (yielded ops a.tmps) = true := by simp [Region.wanted, hgd]
  rw [if_pos hw]
  obtain ⟨v', w', hr, h2, h3, h4⟩ := run_appS w o.type base g cap n l t hown h40 hbase
  unfold Oper.wp execOp
  simp only [ho, resolve, invoke, builtin, Sem.run_bind, Sem.run_pure, Result.andThen_ok, List.map_toArray, List.map_cons, List.map_nil, hs, hx, hr]
  exact h v' w' h2 ⟨h3, h4⟩

/-- The bytes of an element. -/
def elB (v : V) : List UInt8 := if v.1 = 2 then [byteOf v.2.1] else if v.1 = 3 then numB (v.2.2.size : Int) 2 ++ v.2.2.data.toList else numB v.2.1 8
theorem calln (a b c : Value) (w : World) : (callFunc 35 #[a, b, c]).run Tryd.prog w = .ok (.enter 35 #[a, b, c]) w := by kernel_rfl

set_option maxRecDepth 100000 in
set_option maxHeartbeats 2000000 in
theorem appEl_any (k n : Int) (s : ByteArray) (hs : s.size ≤ 256) (base g cap m : Nat) (l : List UInt8) (w : World) (ho : w.ownsRow base 5 1 (.slice (some ⟨g, 0, none⟩) m cap) m (bv l)) (hb : base ≤ w.heap.size) (hl : m ≤ 800000000) :
    Calls Tryd.prog 37 #[.slice (some ⟨g, 0, none⟩) m cap, .agg #[.int .i64 k, .int .i64 n, .string s]] w fun e w' => ∃ v', e = .returned v' ∧ Hid (Grew w w' base (.slice (some ⟨g, 0, none⟩) m cap) v' (m + (elB (k, n, s)).length) (l ++ elB (k, n, s))) := by
  have B0 : Below w.heap.size w (w.alloc (.cells #[.int .i64 k, .int .i64 n, .string s] 37)) := (Below.refl _ w).alloc (Nat.le_refl _) _
  have b0 := Box3.new w k n s 37
  have hgl : g < w.heap.size := (own_blk ho g rfl).lt
  have G0 : Grew w (w.alloc (.cells #[.int .i64 k, .int .i64 n, .string s] 37)) base (.slice (some ⟨g, 0, none⟩) m cap) (.slice (some ⟨g, 0, none⟩) m cap) m l := ⟨own_next ho B0, Kp.of B0, fun g hg => .inl hg⟩
  have z0 : w.heap.size < (w.alloc (.cells #[.int .i64 k, .int .i64 n, .string s] 37)).heap.size := by simp
  by_cases h2 : k = 2
  · have he : elB (k, n, s) = [byteOf n] := by unfold elB; rw [if_pos h2]
    rw [he]
    subst h2
    have H1 : Hid (∀ u ∈ (#[.int .u8 (n % 256)] : Array Value).toList, u.oneCell' = true) := fun u hu => by
      obtain rfl := List.mem_singleton.1 (by simpa using hu)
      rfl
    go_enter Tryd.func37, Tryd.ntmps37
    go_upto_region 2 with fail
    generalize w.alloc (.cells #[.int .i64 2, .int .i64 n, .string s] 37) = X at b0 G0 z0 ⊢
    obtain ⟨⟨⟨x0, -⟩, ⟨x1, -⟩⟩, x2, -⟩ := b0
    have HO : Hid (X.ownsRow base 5 1 (.slice (some ⟨g, 0, none⟩) m cap) m (bv l)) := G0.own
    go_wp2_with (first
      | (at_builtin; refine wpList_app 87 5 _ 1 1 Tryd.underlying87 info5 (by rfl) (by decide) (by decide) (by rfl) _ _ (by rfl) base (.slice (some ⟨g, 0, none⟩) m cap) m (bv l) (by rfl) HO.out _ (by rfl) H1.out (by rfl) (by omega) (by omega) ?_; intro v' w3 ho3 hg3; obtain ⟨q, c, rfl, -, -⟩ := own_slice ho3.out)
      | go_in)
    go_ret
    refine ⟨_, rfl, ?_⟩
    refine G0.step _ hg3.out.1 hg3.out.2 ?_
    have e : bv (l ++ [byteOf n]) = bv l ++ [.int .u8 (n % 256)] := by
      rw [bv_app]
      simp only [bv, List.map_cons, List.map_nil, byteOf_nat]
    rw [e]
    exact ho3.out
  have h2' : (k == 2) = false := by simpa using h2
  by_cases h3 : k = 3
  · have he : elB (k, n, s) = numB (s.size : Int) 2 ++ s.data.toList := by unfold elB; rw [if_neg h2, if_pos h3]
    rw [he, List.length_append, numB_len, ← Lib.size_eq s]
    subst h3
    clear he
    clear h2
    go_enter Tryd.func37, Tryd.ntmps37
    go_upto_region 2 with fail
    generalize w.alloc (.cells #[.int .i64 3, .int .i64 n, .string s] 37) = X at b0 G0 z0 ⊢
    have b1 := b0
    obtain ⟨⟨⟨x0, -⟩, ⟨x1, -⟩⟩, x2, -⟩ := b0
    have hc := fun W (hW : W.ownsRow base 5 1 (.slice (some ⟨g, 0, none⟩) m cap) m (bv l)) (hWb : base ≤ W.heap.size) => appNum_any (s.size : Int) 2 (by decide) base _ m l W hW hWb (by omega)
    have HO : Hid (X.drew.ownsRow base 5 1 (.slice (some ⟨g, 0, none⟩) m cap) m (bv l)) := own_next G0.own (Below.refl _ X).drew
    have HXB : Hid (base ≤ X.drew.heap.size) := by show base ≤ X.heap.size; omega
    have HBX : Hid (∀ W v', Grew X.drew W base (.slice (some ⟨g, 0, none⟩) m cap) v' (m + 2) (l ++ numB (s.size : Int) 2) → W.cell? ⟨w.heap.size, 2, none⟩ = some (.string s) ∧ Grew w W base (.slice (some ⟨g, 0, none⟩) m cap) v' (m + 2) (l ++ numB (s.size : Int) 2)) := fun W v' hW => by
      refine ⟨?_, (G0.next (Below.refl _ X).drew).trans hW⟩
      have e : W.heap[w.heap.size]? = X.heap[w.heap.size]? := hW.kp.block _ (by show w.heap.size < X.heap.size; omega) (fun q => by cases q; exact Nat.lt_irrefl _ hgl)
      exact (World.cell?_of_block (w := X) (a := ⟨w.heap.size, 2, none⟩) e).trans x2
    clear G0 ho b1 B0
    go_wp2_with fail
    go_region_law (first
      | (refine step_call (by rfl) 35 [.tmp 17, .tmp 20, .const (.int .i64 2)] #[87, 2, 3] [.slice (some ⟨g, 0, none⟩) m cap, .int .i64 (s.size : Int), .int .i64 2] (by rfl) (by rfl) (calln _ _ _) _ (hc _ HO.out HXB.out) ?_; rintro v' w3 hg3; obtain ⟨d2, G3⟩ := HBX.out w3 v' hg3.out; obtain ⟨q3, c3, rfl, hc3, hr3⟩ := own_slice G3.own; obtain ⟨g3, rfl, -⟩ := hr3 (by omega))
      | (refine step_appS (by rfl) _ _ (by rfl) base g3 c3 (m + 2) (l ++ numB (s.size : Int) 2) (by rfl) G3.own s (by rfl) (by omega) (Nat.le_trans hb G3.kp.size) ?_; intro v5 w5 ho5 hg5; obtain ⟨q5, c5, rfl, -, -⟩ := own_slice ho5.out))
    all_goals
      have HF : Hid (Grew w w5 base (.slice (some ⟨g, 0, none⟩) m cap) (.slice q5 (m + 2 + s.size) c5) (m + 2 + s.size) (l ++ (numB (s.size : Int) 2 ++ s.data.toList))) := by
        refine G3.trans ⟨?_, (Kp.refl _ _).grown hg5.out.1 (fun k hk => .inl (by rw [← hk]; rfl)), fun g' hg' => ?_⟩
        · rw [← List.append_assoc]
          exact ho5.out
        · rcases hg5.out.2 with r | r
          · exact .inl (by rw [← hg', r]; rfl)
          · rw [r] at hg'
            cases hg'
            exact .inr (Nat.le_refl _)
      clear ho5 hg5 G3 d2
      go_wp2
      go_ret
      exact ⟨_, rfl, by rw [show m + (2 + s.size) = m + 2 + s.size by omega]; exact HF⟩
  · have he : elB (k, n, s) = numB n 8 := by unfold elB; rw [if_neg h2, if_neg h3]
    rw [he, numB_len]
    have h3' : (k == 3) = false := by simpa using h3
    clear h2 h3
    go_enter Tryd.func37, Tryd.ntmps37
    go_wp2_with fail
    generalize w.alloc (.cells #[.int .i64 k, .int .i64 n, .string s] 37) = X at b0 G0 z0 ⊢
    obtain ⟨⟨⟨x0, -⟩, ⟨x1, -⟩⟩, x2, -⟩ := b0
    have hc := appNum_any n 8 (by decide) base _ m l X G0.own (by omega) (by omega)
    go_wp2_with (first | (go_at_call 35; refine hc.mono ?_; rintro e w3 ⟨v', rfl, hg3⟩; obtain ⟨q, c, rfl, -, -⟩ := own_slice hg3.out.own) | go_in)
    go_ret
    exact ⟨_, rfl, G0.trans hg3.out⟩
end Go.Proofs.YtdcioemjmmhbhaaDoor
