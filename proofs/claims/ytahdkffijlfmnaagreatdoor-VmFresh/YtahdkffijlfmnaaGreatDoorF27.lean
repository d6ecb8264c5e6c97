import Derived.Test.YtahdkffijlfmnaaGreatDoorF11
import Derived.Test.YtahdkffijlfmnaaGreatDoorF26
namespace Go.Proofs.YtahdkffijlfmnaaGreatDoor.Hp
open Go.RowKit
theorem vas_take (vs : List V) (j : Nat) (hj : j < vs.length) : (vs.take (j + 1)).flatMap vaB = (vs.take j).flatMap vaB ++ vaB vs[j] := by
  rw [List.take_succ_eq_append_getElem hj, List.flatMap_append]
  simp
theorem vaB_def (k n : Int) (s : ByteArray) : vaB (k, n, s) = [byteOf k] ++ elB (k, n, s) := rfl
theorem bv_byte (l : List UInt8) (n : Int) : bv (l ++ [byteOf n]) = bv l ++ [.int .u8 (n % 256)] := by
  rw [bv_app]
  simp only [bv, List.map_cons, List.map_nil, byteOf_nat]
theorem wpList_ap2 {P : Program} {w : World} {ops : Array Oper} {rest : List Oper} {o : Oper} {a : Act} {Q : Exit → Act → World → Prop} {v' : Value} {w' : World} (hgd : o.guard = none) (s x : Operand) (t t2 : TypeId) (va vx : Value)
    (ho : o.op = .call { callee := .builtin .append, args := #[s, x], argTypes := #[t, t2] }) (ty : TypeId) (hty : o.type = ty) (hs : a.eval s = va) (hx : a.eval x = vx) (hr : (Builtin.append_ #[t, t2] ty #[va, vx]).run P w = .ok v' w')
    (h : wpList P ops Q rest (a.put o.dst v') w') : wpList P ops Q (o :: rest) a w := by
  subst hty hs hx
  refine wpList_plain hgd fun K hK => ?_
  unfold Oper.wp execOp
  simp only [ho, resolve, invoke, builtin, Sem.run_bind, Sem.run_pure, Result.andThen_ok, List.map_toArray, List.map_cons, List.map_nil, hr]
  exact hK _ _ h
/-- A text was appended. -/
theorem Grew.text {w w3 w5 : World} {base : Nat} {v0 v5 : Value} {g3 M c3 : Nat} {P : List UInt8} {s : ByteArray} (G : Grew w w3 base v0 (.slice (some ⟨g3, 0, none⟩) M c3) M P) (ho : w5.ownsRow base 5 1 v5 (M + s.size) (bv (P ++ s.data.toList))) (hg : w3.grownBy w5 (some g3)) (hv : v5.ownBlock = some g3 ∨ v5.ownBlock = some w3.heap.size) : Grew w w5 base v0 v5 (M + s.size) (P ++ s.data.toList) := by
  refine G.trans ⟨ho, (Kp.refl _ _).grown hg (fun k hk => .inl (by rw [← hk]; rfl)), fun g' hg' => ?_⟩
  rcases hv with r | r
  · exact .inl (by rw [← hg', r]; rfl)
  · rw [r] at hg'
    cases hg'
    exact .inr (Nat.le_refl _)
/-- A byte was appended; the rest has its cells still. -/
theorem Grew.first {w X w3 : World} {base : Nat} {v0 v3 : Value} {g2 M c : Nat} {P : List UInt8} {k : Int} {C : Obj} (G0 : Grew w X base v0 (.slice (some ⟨g2, 0, none⟩) M c) M P) (hg : (X.alloc C).grownBy w3 (Value.slice (some ⟨g2, 0, none⟩) M c).ownBlock) (hv : v3.ownBlock = (Value.slice (some ⟨g2, 0, none⟩) M c).ownBlock ∨ v3.ownBlock = some (X.heap.size + 1)) (ho : w3.ownsRow base 5 1 v3 (M + 1) (bv P ++ [.int .u8 (k % 256)])) (b : Nat) (hb : b < X.heap.size) (hne : b ≠ g2) :
    ∃ g3 c3, v3 = .slice (some ⟨g3, 0, none⟩) (M + 1) c3 ∧ Grew w w3 base v0 (.slice (some ⟨g3, 0, none⟩) (M + 1) c3) (M + 1) (P ++ [byteOf k]) ∧ (∀ o, w3.cell? ⟨b, o, none⟩ = X.cell? ⟨b, o, none⟩) ∧ g3 ≠ b ∧ X.heap.size ≤ w3.heap.size := by
  rw [← bv_byte] at ho
  have G1 := G0.step C hg hv ho
  obtain ⟨q, c3, rfl, -, hq⟩ := own_slice ho
  obtain ⟨g3, rfl, -⟩ := hq (by omega)
  have hbl : w3.heap[b]? = X.heap[b]? := by
    have e1 := hg.block b (by simp; omega) (fun e => hne (by cases e; rfl))
    have e2 := ((Below.refl X.heap.size X).alloc (Nat.le_refl _) C).block b hb
    exact e1.trans e2
  refine ⟨g3, c3, rfl, G1, fun o => World.cell?_of_block (w := X) (w' := w3) (a := ⟨b, o, none⟩) hbl, fun e => ?_, ?_⟩
  · rcases hv with r | r
    · cases r
      exact hne e.symm
    · have r : some g3 = some (X.heap.size + 1) := r
      have r := Option.some.inj r
      omega
  · have := hg.size
    simp at this
    omega
set_option maxRecDepth 100000 in
set_option maxHeartbeats 4000000 in
theorem appVals_any {w : World} {q : Option Addr} {vc_ : Nat} {vs : List V} (hv : RdS w q vs.length vc_ (vcs vs)) (hs : ∀ v ∈ vs, v.2.2.size ≤ 256) (hn : vs.length ≤ 100000) (base g cap m : Nat) (l : List UInt8) (ho : w.ownsRow base 5 1 (.slice (some ⟨g, 0, none⟩) m cap) m (bv l)) (hne : ∀ g' o', 0 < vs.length → q = some ⟨g', o', none⟩ → g' ≠ g) (hb : base ≤ w.heap.size) (hl : m + 300 * vs.length ≤ 800000000) :
    Calls Tryz.prog 38 #[.slice (some ⟨g, 0, none⟩) m cap, .slice q vs.length vc_] w fun e w' => ∃ v', e = .returned v' ∧ Hid (Grew w w' base (.slice (some ⟨g, 0, none⟩) m cap) v' (m + (vs.flatMap vaB).length) (l ++ vs.flatMap vaB)) := by
  have HV : Hid (RdS w q vs.length vc_ (vcs vs)) := hv
  have HS : Hid (∀ v ∈ vs, v.2.2.size ≤ 256) := hs
  have HG0 : Hid (Grew w w base (.slice (some ⟨g, 0, none⟩) m cap) (.slice (some ⟨g, 0, none⟩) m cap) (m + ((vs.take 0).flatMap vaB).length) (l ++ (vs.take 0).flatMap vaB)) := by
    show Grew w w base (.slice (some ⟨g, 0, none⟩) m cap) (.slice (some ⟨g, 0, none⟩) m cap) m (l ++ [])
    rw [List.append_nil]
    exact ⟨ho, Kp.refl _ _, fun g hg => .inl hg⟩
  have HNE : Hid (∀ g' o', 0 < vs.length → q = some ⟨g', o', none⟩ → g' ≠ g) := hne
  have hgl : g < w.heap.size := (own_blk ho g rfl).lt
  clear hv hs ho hne
  go_enter Tryz.func38, Tryz.ntmps38
  go_wp2_with fail
  go_loopw [0, 9] (fun b i wr => ∃ (j c : Nat) (g2 : Nat), j ≤ vs.length ∧ i = .int .i64 (j : Int) ∧ b = .slice (some ⟨g2, 0, none⟩) (m + ((vs.take j).flatMap vaB).length) c ∧ Hid (Grew w wr base (.slice (some ⟨g, 0, none⟩) m cap) (.slice (some ⟨g2, 0, none⟩) (m + ((vs.take j).flatMap vaB).length) c) (m + ((vs.take j).flatMap vaB).length) (l ++ (vs.take j).flatMap vaB))) (fun _ i _ => vs.length - (intOf i).toNat)
  case atStart => exact ⟨0, cap, g, Nat.zero_le _, rfl, rfl, HG0⟩
  case round =>
    clear HG0
    obtain ⟨j, c, g2, hj, rfl, rfl, hG⟩ := hrel
    have j0 : (0 : Int) ≤ (j : Int) := by omega
    by_cases hlt : j < vs.length
    case neg =>
      obtain rfl : j = vs.length := by omega
      rw [List.take_length] at hG ⊢
      go_wp2
      first | (change bodyPost Tryz.prog Tryz.f38 _ Exit.ret _ _) | (simp only [Exit.noGoto])
      go_ret
      exact ⟨_, rfl, hG⟩
    have j1 : (j : Int) < (vs.length : Int) := by omega
    have hw : IntKind.i64.wrap ((j : Int) + 1) = ((j + 1 : Nat) : Int) := by rw [IntKind.wrap_i64]; omega
    obtain ⟨fg, fo, hq, hrng⟩ := HV.out.at_ (by omega)
    have hfne := HNE.out fg fo (by omega) hq
    have hfl : fg < w.heap.size := block_lt_of_cell (hrng 0 (.int .i64 vs[0].1) ((flat_at vc 3 (fun _ => rfl) vs 0 0 (by omega) (by decide)).trans rfl))
    have hbl := hG.out.kp.block fg hfl (fun e => hfne (by cases e; rfl))
    have er := vcs_get (range_same hrng hbl) j hlt
    have hsz := HS.out vs[j] (List.getElem_mem hlt)
    have hmle : m + ((vs.take j).flatMap vaB).length ≤ 799999000 + 1000 - 300 := by
      have := vas_len (vs.take j) fun v hv => HS.out v (List.mem_of_mem_take hv)
      rw [List.length_take] at this
      omega
    have htk := vas_take vs j hlt
    obtain ⟨M, hM⟩ : ∃ M, m + ((vs.take j).flatMap vaB).length = M := ⟨_, rfl⟩
    obtain ⟨P, hP⟩ : ∃ P, l ++ (vs.take j).flatMap vaB = P := ⟨_, rfl⟩
    have HEN : Hid (m + ((vs.take (j + 1)).flatMap vaB).length = M + (vaB vs[j]).length ∧ l ++ (vs.take (j + 1)).flatMap vaB = P ++ vaB vs[j]) := by
      rw [htk, ← hM, ← hP]
      exact ⟨by rw [List.length_append]; omega, by rw [List.append_assoc]⟩
    rw [hM, hP] at hG
    rw [hM] at hmle ⊢
    clear htk hM hP
    generalize vs[j] = y at er hsz HEN
    obtain ⟨k, n, s⟩ := y
    have hsz : s.size ≤ 256 := hsz
    have a0 : wr.cell? ⟨fg, fo + j * 3, none⟩ = some (.int .i64 k) := er 0 _ rfl
    have a1 : wr.cell? ⟨fg, fo + j * 3 + 1, none⟩ = some (.int .i64 n) := er 1 _ rfl
    have a2 : wr.cell? ⟨fg, fo + j * 3 + 2, none⟩ = some (.string s) := er 2 _ rfl
    clear er hbl hrng hfne
    subst hq
    have B0 : Below wr.heap.size wr (wr.alloc (.cells #[.int .i64 k, .int .i64 n, .string s] 52)) := (Below.refl _ wr).alloc (Nat.le_refl _) _
    have b0 := Box3.new wr k n s 52
    have G0 := hG.out.next B0
    have hbw : base ≤ wr.heap.size := Nat.le_trans hb hG.out.kp.size
    have z0 : wr.heap.size < (wr.alloc (.cells #[.int .i64 k, .int .i64 n, .string s] 52)).heap.size := by simp
    have hg2 : g2 < wr.heap.size := (own_blk hG.out.own g2 rfl).lt
    by_cases h2 : k = 2
    · subst h2
      have H1 : Hid (∀ u ∈ (#[.int .u8 2] : Array Value).toList, u.oneCell' = true) := fun u hu => by
        obtain rfl := List.mem_singleton.1 (by simpa using hu)
        rfl
      go_upto_region 4 with fail
      generalize wr.alloc (.cells #[.int .i64 2, .int .i64 n, .string s] 52) = X at b0 G0 z0 ⊢
      obtain ⟨⟨⟨x0, -⟩, ⟨x1, -⟩⟩, x2, -⟩ := b0
      have HO : Hid (X.ownsRow base 5 1 (.slice (some ⟨g2, 0, none⟩) M c) M (bv P)) := G0.own
      have HG : Hid (Grew w X base (.slice (some ⟨g, 0, none⟩) m cap) (.slice (some ⟨g2, 0, none⟩) M c) M P) := G0
      have hne2 : wr.heap.size ≠ g2 := by omega
      clear G0
      have H2 : Hid (∀ u ∈ (#[.int .u8 (n % 256)] : Array Value).toList, u.oneCell' = true) := fun u hu => by
        obtain rfl := List.mem_singleton.1 (by simpa using hu)
        rfl
      go_wp2_with (first
        | (at_builtin; refine wpList_app 80 5 _ 1 1 Tryz.underlying80 info5 (by rfl) (by decide) (by decide) (by rfl) _ _ (by rfl) base (.slice (some ⟨g2, 0, none⟩) M c) M (bv P) (by rfl) HO.out _ (by rfl) H1.out (by rfl) (by omega) (by omega) ?_; intro v3 w3 ho3 hg3; obtain ⟨g3, c3, rfl, hG1, hcl, hg3b, hX3⟩ := Grew.first HG.out hg3.out.1 hg3.out.2 (show w3.ownsRow base 5 1 v3 (M + 1) (bv P ++ [.int .u8 (2 % 256)]) from ho3.out) wr.heap.size z0 hne2; have u0 := (hcl 0).trans x0; have u1 := (hcl 1).trans x1; have u2 := (hcl 2).trans x2; have HG1 : Hid (Grew w w3 base (.slice (some ⟨g, 0, none⟩) m cap) (.slice (some ⟨g3, 0, none⟩) (M + 1) c3) (M + 1) (P ++ [byteOf 2])) := hG1; clear hG1 hcl ho3 hg3)
        | (at_builtin; refine wpList_app 80 5 _ 1 1 Tryz.underlying80 info5 (by rfl) (by decide) (by decide) (by rfl) _ _ (by rfl) base (.slice (some ⟨g3, 0, none⟩) (M + 1) c3) (M + 1) (bv (P ++ [byteOf 2])) (by rfl) HG1.out.own _ (by rfl) H2.out (by rfl) (by omega) (by omega) ?_; intro v5 w5 ho5 hg5; have G5 := HG1.out.step _ hg5.out.1 hg5.out.2 ((congrArg (fun z => w5.ownsRow base 5 1 v5 (M + 1 + 1) z) (bv_byte (P ++ [byteOf 2]) n)).mpr ho5.out); obtain ⟨q5, c5, rfl, -, hq5⟩ := own_slice ho5.out; obtain ⟨g5, rfl, -⟩ := hq5 (by omega); have HG5 : Hid _ := G5; clear ho5 hg5 G5)
        | go_in)
      have hlen : M + (vaB (2, n, s)).length = M + 1 + 1 := rfl
      have hvab : P ++ vaB (2, n, s) = P ++ [byteOf 2] ++ [byteOf n] := by rw [List.append_assoc]; rfl
      have HGF := HG5
      refine ⟨⟨j + 1, c5, g5, by omega, by push_cast; rfl, ?_, ?_⟩, ?_⟩
      · rw [HEN.out.1, hlen]
      · rw [HEN.out.1, HEN.out.2, hlen, hvab]
        exact HGF
      · show vs.length - ((j : Int) + 1).toNat < vs.length - ((j : Int)).toNat
        omega
    have h2' : (k == 2) = false := by simpa using h2
    by_cases h3 : k = 3
    · subst h3
      clear h2
      have H1 : Hid (∀ u ∈ (#[.int .u8 3] : Array Value).toList, u.oneCell' = true) := fun u hu => by
        obtain rfl := List.mem_singleton.1 (by simpa using hu)
        rfl
      go_upto_region 4 with fail
      generalize wr.alloc (.cells #[.int .i64 3, .int .i64 n, .string s] 52) = X at b0 G0 z0 ⊢
      obtain ⟨⟨⟨x0, -⟩, ⟨x1, -⟩⟩, x2, -⟩ := b0
      have HO : Hid (X.ownsRow base 5 1 (.slice (some ⟨g2, 0, none⟩) M c) M (bv P)) := G0.own
      have HG : Hid (Grew w X base (.slice (some ⟨g, 0, none⟩) m cap) (.slice (some ⟨g2, 0, none⟩) M c) M P) := G0
      have hne2 : wr.heap.size ≠ g2 := by omega
      clear G0
      go_wp2_with (first
        | (at_builtin; refine wpList_app 80 5 _ 1 1 Tryz.underlying80 info5 (by rfl) (by decide) (by decide) (by rfl) _ _ (by rfl) base (.slice (some ⟨g2, 0, none⟩) M c) M (bv P) (by rfl) HO.out _ (by rfl) H1.out (by rfl) (by omega) (by omega) ?_; intro v3 w3 ho3 hg3; obtain ⟨g3, c3, rfl, hG1, hcl, hg3b, hX3⟩ := Grew.first HG.out hg3.out.1 hg3.out.2 (show w3.ownsRow base 5 1 v3 (M + 1) (bv P ++ [.int .u8 (3 % 256)]) from ho3.out) wr.heap.size z0 hne2; have u0 := (hcl 0).trans x0; have u1 := (hcl 1).trans x1; have u2 := (hcl 2).trans x2; have HG1 : Hid (Grew w w3 base (.slice (some ⟨g, 0, none⟩) m cap) (.slice (some ⟨g3, 0, none⟩) (M + 1) c3) (M + 1) (P ++ [byteOf 3])) := hG1; clear hG1 hcl ho3 hg3)
        | (go_at_call 37; go_loud (refine (mappNum_any (s.size : Int) 2 (by decide) base _ (M + 1) (P ++ [byteOf 3]) w3 HG1.out.own (by omega) (by omega)).mono ?_; rintro e4 w4 ⟨v4, rfl, hg4⟩; have e42 : w4.cell? ⟨wr.heap.size, 2, none⟩ = some (.string s) := (World.cell?_of_block (w := w3) (w' := w4) (a := ⟨wr.heap.size, 2, none⟩) (hg4.out.kp.block _ (by show wr.heap.size < w3.heap.size; omega) (fun e => hg3b (by cases e; rfl)))).trans u2; have G4 := HG1.out.trans hg4.out; obtain ⟨q4, c4, rfl, -, hq4⟩ := own_slice G4.own; obtain ⟨g4, rfl, -⟩ := hq4 (by omega); have h4b := G4.kp.size; obtain ⟨v5, w5, r5, o5, gr5, ob5⟩ := run_appS w4 80 base g4 c4 (M + 1 + 2) _ s G4.own (by omega) (by omega); have G5 := G4.text o5 gr5 ob5; obtain ⟨q5, c5, rfl, -, hq5⟩ := own_slice G5.own; obtain ⟨g5, rfl, -⟩ := hq5 (by omega); have HG5 : Hid _ := G5; clear hg4 G4 G5 o5 gr5 ob5))
        | (at_builtin; refine wpList_ap2 (by rfl) _ _ 80 9 _ _ (by rfl) 80 (by rfl) (by rfl) (by rfl) r5 ?_)
        | go_in)
      have he : elB (3, n, s) = numB (s.size : Int) 2 ++ s.data.toList := by unfold elB; rw [if_neg (show ¬ (3 : Int) = 2 by decide), if_pos rfl]
      have hlen : M + (vaB (3, n, s)).length = M + 1 + 2 + s.size := by rw [vaB_def, he, List.length_append, List.length_append, numB_len, ← Lib.size_eq s]; simp; omega
      have hvab : P ++ vaB (3, n, s) = P ++ [byteOf 3] ++ numB (s.size : Int) 2 ++ s.data.toList := by rw [List.append_assoc, List.append_assoc, vaB_def, he]
      have HGF := HG5
      refine ⟨⟨j + 1, c5, g5, by omega, by push_cast; rfl, ?_, ?_⟩, ?_⟩
      · rw [HEN.out.1, hlen]
      · rw [HEN.out.1, HEN.out.2, hlen, hvab]
        exact HGF
      · show vs.length - ((j : Int) + 1).toNat < vs.length - ((j : Int)).toNat
        omega
    have h3' : (k == 3) = false := by simpa using h3
    have H1 : Hid (∀ u ∈ (#[.int .u8 (k % 256)] : Array Value).toList, u.oneCell' = true) := fun u hu => by
      obtain rfl := List.mem_singleton.1 (by simpa using hu)
      rfl
    go_upto_region 4 with fail
    generalize wr.alloc (.cells #[.int .i64 k, .int .i64 n, .string s] 52) = X at b0 G0 z0 ⊢
    obtain ⟨⟨⟨x0, -⟩, ⟨x1, -⟩⟩, x2, -⟩ := b0
    have HO : Hid (X.ownsRow base 5 1 (.slice (some ⟨g2, 0, none⟩) M c) M (bv P)) := G0.own
    have HG : Hid (Grew w X base (.slice (some ⟨g, 0, none⟩) m cap) (.slice (some ⟨g2, 0, none⟩) M c) M P) := G0
    have hne2 : wr.heap.size ≠ g2 := by omega
    clear G0
    go_wp2_with (first
      | (at_builtin; refine wpList_app 80 5 _ 1 1 Tryz.underlying80 info5 (by rfl) (by decide) (by decide) (by rfl) _ _ (by rfl) base (.slice (some ⟨g2, 0, none⟩) M c) M (bv P) (by rfl) HO.out _ (by rfl) H1.out (by rfl) (by omega) (by omega) ?_; intro v3 w3 ho3 hg3; obtain ⟨g3, c3, rfl, hG1, hcl, hg3b, hX3⟩ := Grew.first HG.out hg3.out.1 hg3.out.2 (show w3.ownsRow base 5 1 v3 (M + 1) (bv P ++ [.int .u8 (k % 256)]) from ho3.out) wr.heap.size z0 hne2; have u0 := (hcl 0).trans x0; have u1 := (hcl 1).trans x1; have u2 := (hcl 2).trans x2; have HG1 : Hid (Grew w w3 base (.slice (some ⟨g, 0, none⟩) m cap) (.slice (some ⟨g3, 0, none⟩) (M + 1) c3) (M + 1) (P ++ [byteOf k])) := hG1; clear hG1 hcl ho3 hg3)
      | (go_at_call 37; refine (mappNum_any n 8 (by decide) base _ (M + 1) (P ++ [byteOf k]) w3 HG1.out.own (by omega) (by omega)).mono ?_; rintro e5 w5 ⟨v5, rfl, hg5⟩; have G5 := HG1.out.trans hg5.out; obtain ⟨q5, c5, rfl, -, hq5⟩ := own_slice G5.own; obtain ⟨g5, rfl, -⟩ := hq5 (by omega); have HG5 : Hid _ := G5; clear hg5 G5)
      | go_in)
    have he : elB (k, n, s) = numB n 8 := by unfold elB; rw [if_neg h2, if_neg h3]
    have hlen : M + (vaB (k, n, s)).length = M + 1 + 8 := by rw [vaB_def, he, List.length_append, numB_len]; simp
    have hvab : P ++ vaB (k, n, s) = P ++ [byteOf k] ++ numB n 8 := by rw [List.append_assoc, vaB_def, he]
    have HGF := HG5
    refine ⟨⟨j + 1, c5, g5, by omega, by push_cast; rfl, ?_, ?_⟩, ?_⟩
    · rw [HEN.out.1, hlen]
    · rw [HEN.out.1, HEN.out.2, hlen, hvab]
      exact HGF
    · show vs.length - ((j : Int) + 1).toNat < vs.length - ((j : Int)).toNat
      omega
end Go.Proofs.YtahdkffijlfmnaaGreatDoor.Hp

namespace Go.Proofs.YtahdkffijlfmnaaGreatDoor
open Go.RowKit
open Hp (V vc vcs)
/-- Only frames' insides and the output may have turned. -/
structure Fl (S S' : Ms) : Prop where
  st : S'.steps = S.steps
  rd : S'.rd = S.rd
  tr : S'.tr = S.tr
  ph : S'.ph = S.ph
  fs : S'.fs.length = S.fs.length
  hp : S'.hp = S.hp
theorem Fl.refl (S : Ms) : Fl S S := ⟨rfl, rfl, rfl, rfl, rfl, rfl⟩
theorem Fl.trans {S T U : Ms} (a : Fl S T) (b : Fl T U) : Fl S U := ⟨b.st.trans a.st, b.rd.trans a.rd, b.tr.trans a.tr, b.ph.trans a.ph, b.fs.trans a.fs, b.hp.trans a.hp⟩
theorem Fl.setF (S : Ms) (n : Nat) (f : Fr) : Fl S (S.setF n f) := ⟨rfl, rfl, rfl, rfl, List.length_set, rfl⟩
theorem Fl.push {S S' : Ms} {n : Nat} {f : Fr} {v : V} (e : doPush S n f v = .ok S') : Fl S S' := by
  unfold doPush pushS at e
  split at e
  · cases e
  · cases e; exact Fl.setF ..
theorem Fl.pushOr {S S' : Ms} {n : Nat} {f : Fr} {r : V × Int} (e : doPushOr S n f r = .ok S') : Fl S S' := by
  unfold doPushOr at e
  split at e
  · exact Fl.push e
  · cases e
def lens (A : Hp.Hp) : List Nat := A.map fun x => x.2.length
/-- A step that did not trap. -/
structure Gw (S S' : Ms) : Prop where
  st : S'.steps = S.steps
  rd0 : S.rd ≤ S'.rd
  rd1 : S'.rd ≤ S.rd + 1
  tr : S'.tr = S.tr
  f0 : S.fs.length ≤ S'.fs.length + 1
  f1 : S'.fs.length ≤ S.fs.length + 1
  ph : (S'.fs.length = 0 ∧ S'.ph = 1) ∨ (0 < S'.fs.length ∧ S'.ph = S.ph)
  hp : ∃ l, lens S'.hp = lens S.hp ++ l
theorem Fl.gw {S S' : Ms} (h : Fl S S') (h0 : 0 < S.fs.length) : Gw S S' := ⟨h.st, by rw [h.rd]; exact Nat.le_refl _, by rw [h.rd]; omega, h.tr, by rw [h.fs]; omega, by rw [h.fs]; omega, .inr ⟨by rw [h.fs]; exact h0, h.ph⟩, [], by rw [h.hp, List.append_nil]⟩
theorem Gw.flat {S T S' : Ms} (h : Gw S T) (k : Fl T S') : Gw S S' := ⟨k.st.trans h.st, by rw [k.rd]; exact h.rd0, by rw [k.rd]; exact h.rd1, k.tr.trans h.tr, by rw [k.fs]; exact h.f0, by rw [k.fs]; exact h.f1, by rw [k.fs, k.ph]; exact h.ph, by rw [k.hp]; exact h.hp⟩
theorem lens_put (A : Hp.Hp) (v : V) (i : Int) (x : V) : lens (Hp.putH A v i x).1 = lens A := by
  unfold Hp.putH
  split
  · split
    · rfl
    · unfold lens
      apply List.ext_getElem?
      intro k
      simp only [List.getElem?_map, List.getElem?_modify]
      cases A[k]? with
      | none => rfl
      | some y => by_cases hk : v.2.1.toNat - 1 = k <;> simp [hk]
  · rfl
theorem lens_make (A : Hp.Hp) (lim : Nat) (kind n : Int) : ∃ l, lens (Hp.makeH A lim kind n).1 = lens A ++ l := by
  unfold Hp.makeH
  split
  · exact ⟨[], by simp⟩
  · split
    · exact ⟨[], by simp⟩
    · split
      · exact ⟨[], by simp⟩
      · exact ⟨_, List.map_append ..⟩
theorem op_gw {K : Cg} {S : Ms} {n : Nat} {f : Fr} {i : Nat} {hi : i < K.Es.length} {a b : Int} {o : Nat} {r : Ms × Yd} (hn : S.fs.length = n + 1) (e : opS K S n f i hi a b o = .ok r) : Gw S r.1 := by
  obtain ⟨S', y⟩ := r
  have h0 : 0 < S.fs.length := by omega
  have cut : ∀ (f : Fr) (xs : List V), Fl S (S.cut n f xs) := fun f xs => Fl.setF ..
  have cut2 : ∀ (f f' : Fr) (xs ys : List V), Fl S ((S.cut n f xs).cut n f' ys) := fun f f' xs ys => (Fl.setF ..).trans (Fl.setF ..)
  unfold opS at e
  split at e
  · exact (Fl.push (plain_ok e)).gw h0
  · exact (Fl.push (plain_ok e)).gw h0
  · have e := plain_ok e
    unfold doTextS at e
    split at e
    · exact (Fl.push e).gw h0
    · cases e
  · have e := plain_ok e
    unfold doLoadS at e
    split at e
    · exact (Fl.push e).gw h0
    · cases e
  · have e := plain_ok e
    unfold doStoreS at e
    split at e
    · cases e; exact ((cut _ _).trans (Fl.setF ..)).gw h0
    · cases e
  · cases e; exact (cut _ _).gw h0
  · exact ((cut _ _).trans (Fl.pushOr (plain_ok e))).gw h0
  · exact ((cut2 _ _ _ _).trans (Fl.pushOr (plain_ok e))).gw h0
  · have e := plain_ok e
    unfold doJumpS at e
    split at e
    · cases e; exact (Fl.setF ..).gw h0
    · cases e
  · have e := plain_ok e
    unfold doFalseS doJumpS at e
    split at e
    · split at e
      · split at e
        · cases e; exact ((cut _ _).trans (Fl.setF ..)).gw h0
        · cases e
      · cases e; exact (cut _ _).gw h0
    · cases e
  · have e := plain_ok e
    unfold doCallS at e
    split at e
    · split at e
      · cases e
      · split at e
        · cases e
        · split at e
          · cases e
          · cases e
            have hl : ∀ x, ((S.fs.set n x).length = n + 1) := fun x => by rw [List.length_set]; exact hn
            refine ⟨rfl, Nat.le_refl _, Nat.le_succ _, rfl, ?_, ?_, .inr ⟨?_, rfl⟩, [], (List.append_nil _).symm⟩
            · show _ ≤ (S.fs.set n _ ++ [_]).length + 1
              rw [List.length_append, hl]; simp; omega
            · show (S.fs.set n _ ++ [_]).length ≤ _
              rw [List.length_append, hl]; simp; omega
            · show 0 < (S.fs.set n _ ++ [_]).length
              simp
    · cases e
  · have e := plain_ok e
    unfold doRetS at e
    split at e
    · cases e
    · rename_i hx
      split at e
      · cases e
      · split at e
        · cases e
        · cases e
          have hn0 : 0 < n := by
            rcases Nat.eq_zero_or_pos n with h | h
            · exact absurd (Or.inr (Or.inr h)) hx
            · exact h
          have hl : ∀ x y, (((S.fs.set n x).set (n - 1) y).take n).length = n := fun x y => by rw [List.length_take, List.length_set, List.length_set]; omega
          refine ⟨rfl, Nat.le_refl _, Nat.le_succ _, rfl, ?_, ?_, .inr ⟨?_, rfl⟩, [], (List.append_nil _).symm⟩
          · show _ ≤ (((S.fs.set n _).set (n - 1) _).take n).length + 1
            rw [hl]; omega
          · show (((S.fs.set n _).set (n - 1) _).take n).length ≤ _
            rw [hl]; omega
          · show 0 < (((S.fs.set n _).set (n - 1) _).take n).length
            rw [hl]; exact hn0
  · have e := plain_ok e
    unfold doDoneS at e
    split at e
    · injection e with e
      have e : _ = S' := e
      rw [← e]
      have hl : (S.fs.take n).length = n := by rw [List.length_take]; omega
      split
      · refine ⟨rfl, Nat.le_refl _, Nat.le_succ _, rfl, ?_, ?_, .inl ⟨?_, rfl⟩, [], (List.append_nil _).symm⟩
        · show _ ≤ (S.fs.take n).length + 1
          rw [hl]; omega
        · show (S.fs.take n).length ≤ _
          rw [hl]; omega
        · show (S.fs.take n).length = 0
          rw [hl]; assumption
      · refine ⟨rfl, Nat.le_refl _, Nat.le_succ _, rfl, ?_, ?_, .inr ⟨?_, rfl⟩, [], (List.append_nil _).symm⟩
        · show _ ≤ (S.fs.take n).length + 1
          rw [hl]; omega
        · show (S.fs.take n).length ≤ _
          rw [hl]; omega
        · show 0 < (S.fs.take n).length
          rw [hl]; omega
    · cases e
  · have e := plain_ok e
    unfold doNewS at e
    split at e
    · refine Gw.flat (T := (S.cut n f f.st.dropLast).heap (Hp.makeH S.hp K.lim (kindS a) (lastV f.st).2.1).1) ?_ (Fl.pushOr e)
      have g := (cut f f.st.dropLast).gw h0
      exact ⟨g.st, g.rd0, g.rd1, g.tr, g.f0, g.f1, g.ph, lens_make ..⟩
    · cases e
  · have e := plain_ok e
    unfold doGetS at e
    split at e
    · exact ((cut2 _ _ _ _).trans (Fl.pushOr e)).gw h0
    · split at e
      · exact ((cut2 _ _ _ _).trans (Fl.pushOr e)).gw h0
      · cases e
  · have e := plain_ok e
    unfold doPutS at e
    split at e
    · split at e
      · cases e
        have g := ((cut2 f { f with st := f.st.dropLast.dropLast.dropLast ++ [lastV f.st.dropLast.dropLast] ++ [lastV f.st.dropLast] } (f.st.dropLast.dropLast.dropLast ++ [lastV f.st.dropLast.dropLast] ++ [lastV f.st.dropLast]) (f.st.dropLast.dropLast.dropLast ++ [lastV f.st.dropLast.dropLast])).trans (Fl.setF _ n { f with st := f.st.dropLast.dropLast.dropLast })).gw h0
        exact ⟨g.st, g.rd0, g.rd1, g.tr, g.f0, g.f1, g.ph, [], by rw [List.append_nil]; exact lens_put ..⟩
      · cases e
    · cases e
  · have e := plain_ok e
    unfold doLenS at e
    split at e
    · exact ((cut _ _).trans (Fl.push e)).gw h0
    · exact ((cut _ _).trans (Fl.pushOr e)).gw h0
  · have e := plain_ok e
    unfold doStrS at e
    split at e
    · exact ((cut _ _).trans (Fl.push e)).gw h0
    · cases e
  · have e := plain_ok e
    unfold doPrintS at e
    split at e
    · cases e
    · split at e
      · cases e
      · cases e
        have g := (cut f (f.st.take (f.st.length - a.toNat))).gw h0
        exact ⟨g.st, g.rd0, g.rd1, g.tr, g.f0, g.f1, g.ph, g.hp⟩
  · have e := plain_ok e
    unfold doReadS at e
    split at e
    · cases hp : doPush S n f (1, K.inp[S.rd], Hp.e0) with
      | error q => rw [hp] at e; cases e
      | ok q =>
        rw [hp] at e
        cases e
        have g := (Fl.push hp).gw h0
        exact ⟨g.st, Nat.le_succ _, Nat.le_refl _, g.tr, g.f0, g.f1, g.ph, g.hp⟩
    · cases e
  · cases e; exact (Fl.refl S).gw h0
  · split at e
    · cases e; exact (Fl.refl S).gw h0
    · cases e
  · cases e; exact (Fl.refl S).gw h0
  · cases e; exact (Fl.refl S).gw h0
theorem next_gw {K : Cg} {S : Ms} {r : Ms × Yd} (e : mnextS K S = .ok r) : Gw S r.1 := by
  unfold mnextS at e
  split at e
  · cases e
  · rename_i f hf
    have hl : 0 < S.fs.length := by
      cases hS : S.fs with
      | nil => rw [hS] at hf; cases hf
      | cons x l => simp
    split at e
    · split at e
      · split at e
        · cases e
        · have hj : Fl S (S.jump (S.fs.length - 1) f (f.pc + 1)) := Fl.setF ..
          have g := op_gw (by rw [hj.fs]; omega) e
          exact ⟨g.st.trans hj.st, by rw [← hj.rd]; exact g.rd0, by rw [← hj.rd]; exact g.rd1, g.tr.trans hj.tr, by rw [← hj.fs]; exact g.f0, by rw [← hj.fs]; exact g.f1, by rw [← hj.ph]; exact g.ph, by rw [← hj.hp]; exact g.hp⟩
      · cases e
    · cases e
/-- A step: it went on, or it trapped and nothing else has turned. -/
theorem step_gw {K : Cg} {S : Ms} (hp : S.ph = 0) (hf : S.fs ≠ []) (hs : S.steps + 1 ≤ 4611686018427387904) :
    ((∃ y, mnextS K { S with steps := S.steps + 1 } = .ok ((mstepS K S).1, y) ∧ (mstepS K S).2 = (y, y.1 != 0)) ∧ Gw { S with steps := S.steps + 1 } (mstepS K S).1) ∨
    ∃ t, mnextS K { S with steps := S.steps + 1 } = .error t ∧ mstepS K S = ({ S with steps := S.steps + 1, ph := 2, tr := t }, yd0, false) := by
  have hm : min (S.steps + 1) 4611686018427387904 = S.steps + 1 := by omega
  unfold mstepS
  rw [if_pos ⟨hp, hf⟩, hm]
  cases hR : mnextS K { S with steps := S.steps + 1 } with
  | error t => exact .inr ⟨t, rfl, rfl⟩
  | ok r => exact .inl ⟨⟨r.2, rfl, rfl⟩, next_gw hR⟩
end Go.Proofs.YtahdkffijlfmnaaGreatDoor

namespace Go.Proofs.YtahdkffijlfmnaaGreatDoor
open Go.RowKit
open Hp (V vc vcs)
/-- Two traps have their reason. -/
def Er (K : Cg) (S : Ms) (n : Nat) (t : Int) : Prop := (t = 5 → K.inp.length ≤ S.rd) ∧ (t = 3 → ((n + 1 : Nat) : Int) = K.dep) ∧ t ≠ 0
theorem erN {K : Cg} {S : Ms} {n : Nat} {t : Int} (a : t ≠ 5) (b : t ≠ 3) (c : t ≠ 0 := by decide) : Er K S n t := ⟨fun e => absurd e a, fun e => absurd e b, c⟩
theorem er7 {K : Cg} {S : Ms} {n : Nat} {t : Int} (a : t = 7) : Er K S n t := by subst a; exact erN (by decide) (by decide)
theorem erOr {K : Cg} {S T : Ms} {n m : Nat} {f : Fr} {r : V × Int} {t : Int} (hr : r.2 ≠ 5 ∧ r.2 ≠ 3) (h : doPushOr T m f r = .error t) : Er K S n t := by
  unfold doPushOr at h
  split at h
  · exact er7 (push_err h)
  · rename_i h0; cases h; exact erN hr.1 hr.2 h0
theorem l0 : (0 : Int) ≠ 5 ∧ (0 : Int) ≠ 3 := ⟨by decide, by decide⟩
theorem l1 : (1 : Int) ≠ 5 ∧ (1 : Int) ≠ 3 := ⟨by decide, by decide⟩
theorem l2 : (2 : Int) ≠ 5 ∧ (2 : Int) ≠ 3 := ⟨by decide, by decide⟩
theorem l4 : (4 : Int) ≠ 5 ∧ (4 : Int) ≠ 3 := ⟨by decide, by decide⟩
theorem l6 : (6 : Int) ≠ 5 ∧ (6 : Int) ≠ 3 := ⟨by decide, by decide⟩
theorem l7 : (7 : Int) ≠ 5 ∧ (7 : Int) ≠ 3 := ⟨by decide, by decide⟩
theorem cmp_er (op o : Int) : (Hp.cmpS op o).2.2.2 ≠ 5 ∧ (Hp.cmpS op o).2.2.2 ≠ 3 := by
  unfold Hp.cmpS
  repeat' split
  all_goals first | exact l0 | exact l7 | exact l1 | exact l2 | exact l4 | exact l6
theorem un_er (op k n : Int) (s : ByteArray) : (vt (Hp.unS op k n s)).2 ≠ 5 ∧ (vt (Hp.unS op k n s)).2 ≠ 3 := by
  unfold Hp.unS
  repeat' split
  all_goals first | exact l0 | exact l7 | exact l1 | exact l2 | exact l4 | exact l6
theorem bin_er (op k n : Int) (s : ByteArray) (k' n' : Int) (s' : ByteArray) : (vt (Hp.binS op k n s k' n' s')).2 ≠ 5 ∧ (vt (Hp.binS op k n s k' n' s')).2 ≠ 3 := by
  unfold Hp.binS Hp.intsS Hp.textsS Hp.namesS
  repeat' split
  all_goals first | exact cmp_er _ _ | exact l0 | exact l7 | exact l1 | exact l2 | exact l4 | exact l6
theorem at_er (k n : Int) (s : ByteArray) (k' n' : Int) (s' : ByteArray) : (vt (Hp.atS k n s k' n' s')).2 ≠ 5 ∧ (vt (Hp.atS k n s k' n' s')).2 ≠ 3 := by
  unfold Hp.atS
  repeat' split
  all_goals first | exact l0 | exact l7 | exact l1 | exact l2 | exact l4 | exact l6
theorem make_er (A : Hp.Hp) (lim : Nat) (kind n : Int) : (Hp.makeH A lim kind n).2.2 ≠ 5 ∧ (Hp.makeH A lim kind n).2.2 ≠ 3 := by
  unfold Hp.makeH
  repeat' split
  all_goals first | exact l0 | exact l7 | exact l1 | exact l2 | exact l4 | exact l6
theorem findH_er (A : Hp.Hp) (v : V) : (Hp.findH A v).2 ≠ 5 ∧ (Hp.findH A v).2 ≠ 3 := by
  unfold Hp.findH
  repeat' split
  all_goals first | exact l0 | exact l7 | exact l1 | exact l2 | exact l4 | exact l6
theorem find_er (A : Hp.Hp) (v x : V) : ((x, (Hp.findH A v).2) : V × Int).2 ≠ 5 ∧ ((x, (Hp.findH A v).2) : V × Int).2 ≠ 3 := findH_er A v
theorem place_er (A : Hp.Hp) (v : V) (i : Int) : (Hp.placeH A v i).2 ≠ 5 ∧ (Hp.placeH A v i).2 ≠ 3 := by
  unfold Hp.placeH
  split
  · first | exact l0 | exact l7 | exact l1 | exact l2 | exact l4 | exact l6
  · exact findH_er A v
theorem get_er (A : Hp.Hp) (v : V) (i : Int) : (Hp.getH A v i).2 ≠ 5 ∧ (Hp.getH A v i).2 ≠ 3 := by
  unfold Hp.getH
  split
  · first | exact l0 | exact l7 | exact l1 | exact l2 | exact l4 | exact l6
  · exact place_er A v i
theorem put_er (A : Hp.Hp) (v : V) (i : Int) (x : V) : (Hp.putH A v i x).2 ≠ 5 ∧ (Hp.putH A v i x).2 ≠ 3 := by
  unfold Hp.putH
  split
  · split
    · first | exact l0 | exact l7 | exact l1 | exact l2 | exact l4 | exact l6
    · first | exact l0 | exact l7 | exact l1 | exact l2 | exact l4 | exact l6
  · exact place_er A v i
theorem op_er {K : Cg} {S : Ms} {n : Nat} {f : Fr} {i : Nat} {hi : i < K.Es.length} {a b : Int} {o : Nat} {t : Int} (h : opS K S n f i hi a b o = .error t) : Er K S n t := by
  unfold opS at h
  split at h
  · exact er7 (push_err (plain_err h))
  · exact er7 (push_err (plain_err h))
  · have h := plain_err h
    unfold doTextS at h
    split at h
    · exact er7 (push_err h)
    · cases h; exact erN (by decide) (by decide)
  · have h := plain_err h
    unfold doLoadS at h
    split at h
    · exact er7 (push_err h)
    · cases h; exact erN (by decide) (by decide)
  · have h := plain_err h
    unfold doStoreS at h
    split at h
    · cases h
    · cases h; exact erN (by decide) (by decide)
  · cases h
  · exact erOr (un_er ..) (plain_err h)
  · exact erOr (bin_er ..) (plain_err h)
  · have h := plain_err h
    unfold doJumpS at h
    split at h
    · cases h
    · cases h; exact erN (by decide) (by decide)
  · have h := plain_err h
    unfold doFalseS doJumpS at h
    split at h
    · split at h
      · split at h
        · cases h
        · cases h; exact erN (by decide) (by decide)
      · cases h
    · cases h; exact erN (by decide) (by decide)
  · have h := plain_err h
    unfold doCallS at h
    split at h
    · split at h
      · cases h; exact erN (by decide) (by decide)
      · split at h
        · cases h; exact erN (by decide) (by decide)
        · split at h
          · rename_i hd; cases h; exact ⟨fun q => absurd q (by decide), fun _ => hd, by decide⟩
          · cases h
    · cases h; exact erN (by decide) (by decide)
  · have h := plain_err h
    unfold doRetS at h
    split at h
    · cases h; exact erN (by decide) (by decide)
    · split at h
      · cases h; exact erN (by decide) (by decide)
      · split at h
        · cases h; exact erN (by decide) (by decide)
        · cases h
  · have h := plain_err h
    unfold doDoneS at h
    split at h
    · cases h
    · cases h; exact erN (by decide) (by decide)
  · have h := plain_err h
    unfold doNewS at h
    split at h
    · exact erOr (make_er ..) h
    · cases h; exact erN (by decide) (by decide)
  · have h := plain_err h
    unfold doGetS at h
    split at h
    · exact erOr (at_er ..) h
    · split at h
      · exact erOr (get_er ..) h
      · cases h; exact erN (by decide) (by decide)
  · have h := plain_err h
    unfold doPutS at h
    split at h
    · split at h
      · cases h
      · rename_i h0
        cases h
        exact erN (put_er ..).1 (put_er ..).2 h0
    · cases h; exact erN (by decide) (by decide)
  · have h := plain_err h
    unfold doLenS at h
    split at h
    · exact er7 (push_err h)
    · exact erOr (find_er ..) h
  · have h := plain_err h
    unfold doStrS at h
    split at h
    · exact er7 (push_err h)
    · cases h; exact erN (by decide) (by decide)
  · have h := plain_err h
    unfold doPrintS at h
    split at h
    · cases h; exact erN (by decide) (by decide)
    · split at h
      · cases h; exact erN (by decide) (by decide)
      · cases h
  · have h := plain_err h
    unfold doReadS at h
    split at h
    · cases hp : doPush S n f (1, K.inp[S.rd], Hp.e0) with
      | error e =>
        rw [hp] at h
        cases h
        exact er7 (push_err hp)
      | ok r => rw [hp] at h; cases h
    · rename_i hr; cases h; exact ⟨fun _ => Nat.le_of_not_lt hr, fun q => absurd q (by decide), by decide⟩
  · cases h
  · split at h
    · cases h
    · cases h; exact erN (by decide) (by decide)
  · cases h
  · cases h
theorem next_er {K : Cg} {S : Ms} {t : Int} (h : mnextS K S = .error t) : Er K S (S.fs.length - 1) t := by
  unfold mnextS at h
  split at h
  · cases h; exact er7 rfl
  · split at h
    · split at h
      · split at h
        · cases h; exact er7 rfl
        · have q := op_er h
          exact ⟨fun e => q.1 e, q.2⟩
      · cases h; exact er7 rfl
    · cases h; exact er7 rfl
end Go.Proofs.YtahdkffijlfmnaaGreatDoor

namespace Go.Proofs.YtahdkffijlfmnaaGreatDoor
open Go.RowKit
open Hp (V vc vcs)

/-- A machine that lies there, with all that is known of it. -/
structure Live (w : World) (g : Nat) (K : Cg) (S : Ms) (L : List Fm) (fv ov : Value) (F Q : Nat → Prop) : Prop where
  m : MachM w g K S L fv ov F Q
  g : GloM w L fv ov F
  k : KOk K
  s : StOk K S
/-- A machine has gone on, and all is known of it still. -/
def LiveW (w w' : World) (g : Nat) (K : Cg) (S' : Ms) (L : List Fm) (fv ov : Value) (F Q : Nat → Prop) : Prop :=
  ∃ L' fv' ov' F', Live w' g K S' L' fv' ov' F' Q ∧ (∀ b, foot L' fv' ov' F' b → foot L fv ov F b ∨ w.heap.size ≤ b) ∧ Kp (foot L fv ov F) w w'
theorem Live.went {w w' : World} {g : Nat} {K : Cg} {S S' : Ms} {L : List Fm} {fv ov : Value} {F Q : Nat → Prop} (h : Live w g K S L fv ov F Q) (hs : StOk K S') (k : WentM w w' g K S' L fv ov F Q) : LiveW w w' g K S' L fv ov F Q := by
  obtain ⟨L', fv', ov', F', k1, k2, k3⟩ := k
  refine ⟨L', fv', ov', F', ⟨k1, ⟨h.g.1.kept k3 h.g.2, fun b hb q => ?_⟩, h.k, hs⟩, k2, k3⟩
  rcases k2 b q with r | r
  · exact h.g.2 b hb r
  · have := h.g.1.tabs.size
    omega
theorem Live.self {w : World} {g : Nat} {K : Cg} {S : Ms} {L : List Fm} {fv ov : Value} {F Q : Nat → Prop} (h : Live w g K S L fv ov F Q) : LiveW w w g K S L fv ov F Q := ⟨L, fv, ov, F, h, fun _ q => .inl q, Kp.refl _ _⟩
theorem Live.next {w w' : World} {g : Nat} {K : Cg} {S : Ms} {L : List Fm} {fv ov : Value} {F Q : Nat → Prop} (h : Live w g K S L fv ov F Q) (b : Below w.heap.size w w') : Live w' g K S L fv ov F Q := ⟨h.m.next b, ⟨h.g.1.next b, h.g.2⟩, h.k, h.s⟩
theorem LiveW.next {w w1 w2 : World} {g : Nat} {K : Cg} {S : Ms} {L : List Fm} {fv ov : Value} {F Q : Nat → Prop} (h : LiveW w w1 g K S L fv ov F Q) (b : Below w1.heap.size w1 w2) : LiveW w w2 g K S L fv ov F Q := by
  obtain ⟨L', fv', ov', F', h1, h2, h3⟩ := h
  exact ⟨L', fv', ov', F', h1.next b, h2, h3.next b⟩
theorem LiveW.trans {w w1 w2 : World} {g : Nat} {K : Cg} {S1 S2 : Ms} {L : List Fm} {fv ov : Value} {F Q : Nat → Prop} (h : LiveW w w1 g K S1 L fv ov F Q) (k : ∀ L' fv' ov' F', Live w1 g K S1 L' fv' ov' F' Q → LiveW w1 w2 g K S2 L' fv' ov' F' Q) : LiveW w w2 g K S2 L fv ov F Q := by
  obtain ⟨L', fv', ov', F', h1, h2, h3⟩ := h
  obtain ⟨L2, fv2, ov2, F2, k1, k2, k3⟩ := k L' fv' ov' F' h1
  refine ⟨L2, fv2, ov2, F2, k1, fun b hb => ?_, h3.trans k3 fun b hb hf => ?_⟩
  · rcases k2 b hb with r | r
    · exact h2 b r
    · exact .inr (Nat.le_trans h3.size r)
  · rcases h2 b hf with r | r
    · exact r
    · omega
/-- Step, of such a machine. -/
theorem live_step {w w1 : World} {g : Nat} {K : Cg} {S : Ms} {L : List Fm} {fv ov : Value} {F Q : Nat → Prop} (h : LiveW w w1 g K S L fv ov F Q) (ho : S.out.length ≤ 900000000) :
    Calls Tryz.prog 12 #[.pointer (some ⟨g, 0, none⟩)] w1 fun z w' => z = .returned (.tuple #[ydV (mstepS K S).2.1, .bool (mstepS K S).2.2]) ∧ Hid (LiveW w w' g K (mstepS K S).1 L fv ov F Q) := by
  obtain ⟨L1, fv1, ov1, F1, h1, h2, h3⟩ := id h
  refine (step_any h1.m h1.g h1.k h1.s ho).mono fun z w' q => ⟨q.1, ?_⟩
  have h4 := h1.went (step_ok h1.k h1.s h1.m.used).1 q.2.out
  obtain ⟨L2, fv2, ov2, F2, k1, k2, k3⟩ := h4
  refine ⟨L2, fv2, ov2, F2, k1, fun b hb => ?_, h3.trans k3 fun b hb hf => ?_⟩
  · rcases k2 b hb with r | r
    · exact h2 b r
    · exact .inr (Nat.le_trans h3.size r)
  · rcases h2 b hf with r | r
    · exact r
    · omega
theorem LiveW.out {w w1 : World} {g : Nat} {K : Cg} {S : Ms} {L : List Fm} {fv ov : Value} {F Q : Nat → Prop} (h : LiveW w w1 g K S L fv ov F Q) : (mstepS K S).1.out.length ≤ S.out.length + 4200 := by
  obtain ⟨L1, fv1, ov1, F1, h1, -⟩ := h
  obtain ⟨-, l, l1, l2⟩ := step_ok h1.k h1.s h1.m.used
  rw [l1, List.length_append]
  omega
theorem LiveW.k15 {w w1 : World} {g : Nat} {K : Cg} {S : Ms} {L : List Fm} {fv ov : Value} {F Q : Nat → Prop} (h : LiveW w w1 g K S L fv ov F Q) : w1.cell? ⟨g, 15, none⟩ = some (.int .i64 S.ph) := by
  obtain ⟨L1, fv1, ov1, F1, h1, -⟩ := h
  exact h1.m.k15
/-- What is written into a block that is new since does not matter. -/
theorem Live.sets {w1 X wv W3 : World} {g : Nat} {K : Cg} {S1 S' : Ms} {L1 : List Fm} {fv1 ov1 : Value} {F1 Q : Nat → Prop} (h1 : Live w1 g K S1 L1 fv1 ov1 F1 Q) (bX : Below w1.heap.size w1 X) (k : LiveW X wv g K S' L1 fv1 ov1 F1 Q) {B : Nat} (hB : w1.heap.size ≤ B) (hBX : B < X.heap.size) (hk : Kp (fun x => x = B) wv W3) : LiveW w1 W3 g K S' L1 fv1 ov1 F1 Q := by
  obtain ⟨L', fv', ov', F', k1, k2, k3⟩ := k
  have hlt := h1.m.lt
  have h8 := h1.g.1.tabs.size
  refine ⟨L', fv', ov', F', ⟨k1.m.kept hk fun b hb e => ?_, ⟨k1.g.1.kept hk fun b hb e => ?_, k1.g.2⟩, k1.k, k1.s⟩, fun b hb => ?_, ((Kp.of bX).trans k3 fun _ _ q => q).trans hk fun i hi e => ?_⟩
  · have e : b = B := e
    rcases hb with hb | hb
    · rcases k2 b hb with r | r
      · have := hlt b (.inl r)
        omega
      · omega
    · have := hlt b (.inr hb)
      omega
  · have e : b = B := e
    omega
  · rcases k2 b hb with r | r
    · exact .inl r
    · exact .inr (Nat.le_trans bX.size r)
  · have e : i = B := e
    omega
theorem ret_run {w : World} {B : Nat} {t : TypeId} {a b c d e : Value} {tr : Bool} {tm : Array Value} (h : Full w B t [a, b, c, d, e]) (h2 : tm[4]?.getD undef = .pointer (some ⟨B, 0, none⟩)) (h3 : tm[5]?.getD undef = .bool tr) :
    (results Tryz.f15 tm).run Tryz.prog w = .ok (.tuple #[.agg #[a, b, c, d, e], .bool tr]) w := by
  simp [results, Tryz.results15, go_sem, h2, h3, (h.cell 0 a rfl).1, (h.cell 1 b rfl).1, (h.cell 2 c rfl).1, (h.cell 3 d rfl).1, (h.cell 4 e rfl).1]
set_option maxRecDepth 100000 in
set_option maxHeartbeats 4000000 in
theorem run_any {w w1 : World} {g : Nat} {K : Cg} {S : Ms} {L : List Fm} {fv ov : Value} {F Q : Nat → Prop} (h : LiveW w w1 g K S L fv ov F Q) (n : Nat) (hn : n ≤ 100000) (ho : S.out.length + 4200 * n ≤ 900000000) :
    Calls Tryz.prog 15 #[.pointer (some ⟨g, 0, none⟩), .int .i64 (n : Int)] w1 fun z w' => z = .returned (.tuple #[ydV (mrunS K n S).2.1, .bool (mrunS K n S).2.2]) ∧ Hid (LiveW w w' g K (mrunS K n S).1 L fv ov F Q) := by
  obtain ⟨L1, fv1, ov1, F1, h1, hft, hkp⟩ := id h
  have HFT : Hid _ := hft
  have HKP : Hid _ := hkp
  clear hft hkp
  have hmin : min (n : Int) 1000000 = (n : Int) := by omega
  have bX : Below w1.heap.size w1 (w1.alloc (.cells #[.int .i64 0, .bool false, .int .i64 0, .int .i64 0, .string Hp.e0] 54)) := (Below.refl _ w1).alloc (Nat.le_refl _) _
  have fX := Full.new w1 #[.int .i64 0, .bool false, .int .i64 0, .int .i64 0, .string Hp.e0] 54
  have hXs : (w1.alloc (.cells #[.int .i64 0, .bool false, .int .i64 0, .int .i64 0, .string Hp.e0] 54)).heap.size = w1.heap.size + 1 := by simp
  obtain ⟨X, hX⟩ : ∃ X, w1.alloc (.cells #[.int .i64 0, .bool false, .int .i64 0, .int .i64 0, .string Hp.e0] 54) = X := ⟨_, rfl⟩
  rw [hX] at bX fX hXs
  have HST : Hid (LiveW X X g K S L1 fv1 ov1 F1 Q ∧ mrunS K (n - 0) S = mrunS K n S ∧ S.out.length + 4200 * (n - 0) ≤ 900000000) := ⟨(h1.next bX).self, rfl, ho⟩
  have HFU : Hid (∀ W S', LiveW X W g K S' L1 fv1 ov1 F1 Q → Full W w1.heap.size 54 [.int .i64 0, .bool false, .int .i64 0, .int .i64 0, .string Hp.e0]) := fun W S' hW => by
    obtain ⟨L', fv', ov', F', -, -, k3⟩ := hW
    exact (k3.block _ (by omega) fun q => by have := h1.m.lt _ (.inl q); omega).trans fX
  have HEN : Hid (∀ W W3 S', LiveW X W g K S' L1 fv1 ov1 F1 Q → Kp (fun x => x = w1.heap.size) W W3 → LiveW w W3 g K S' L fv ov F Q) := fun W W3 S' hW hk => by
    obtain ⟨L0, fv0, ov0, F0, g1, g2, g3⟩ := Live.sets h1 bX hW (Nat.le_refl _) (by omega) hk
    exact ⟨L0, fv0, ov0, F0, g1, fun b hb => by
      rcases g2 b hb with r | r
      · exact HFT.out b r
      · exact .inr (Nat.le_trans HKP.out.size r), HKP.out.trans g3 fun b hb hf => by
      rcases HFT.out b hf with r | r
      · exact r
      · omega⟩
  clear h h1 bX ho
  go_enter Tryz.func15, Tryz.ntmps15
  go_wp2_with fail
  go_loopw [10] (fun v wv => ∃ (j : Nat) (S' : Ms), j ≤ n ∧ v = .int .i64 (j : Int) ∧ Hid (LiveW X wv g K S' L1 fv1 ov1 F1 Q ∧ mrunS K (n - j) S' = mrunS K n S ∧ S'.out.length + 4200 * (n - j) ≤ 900000000)) (fun v _ => n - (intOf v).toNat)
  case atStart => exact ⟨0, S, Nat.zero_le _, rfl, HST⟩
  case round =>
    obtain ⟨j, S', hj, rfl, hI⟩ := hrel
    by_cases hlt : j < n
    case neg =>
      obtain rfl : j = n := by omega
      have f1 := HFU.out _ _ hI.out.1
      obtain ⟨y0, g0⟩ := f1.cell 0 _ rfl
      obtain ⟨y1, g1⟩ := f1.cell 1 _ rfl
      obtain ⟨y2, g2⟩ := f1.cell 2 _ rfl
      obtain ⟨y3, g3⟩ := f1.cell 3 _ rfl
      obtain ⟨y4, g4⟩ := f1.cell 4 _ rfl
      have he : mrunS K j S = (S', yd0, false) := by
        have := hI.out.2.1
        rw [Nat.sub_self] at this
        exact this.symm
      have HRE : Hid (mrunS K j S = (S', yd0, false)) := he
      clear he
      go_wp2
      rw [five_self f1]
      refine bodyPost_ret (ret_run f1 rfl rfl) rfl ?_
      rw [HRE.out]
      exact ⟨rfl, HEN.out _ _ _ hI.out.1 (Kp.refl _ _)⟩
    have j0 : (0 : Int) ≤ (j : Int) := Int.natCast_nonneg _
    have j1 : (j : Int) < (n : Int) := Int.ofNat_lt.2 hlt
    have hw : IntKind.i64.wrap ((j : Int) + 1) = ((j + 1 : Nat) : Int) := by rw [IntKind.wrap_i64]; omega
    have dS := live_step hI.out.1 (by have := hI.out.2.2; omega)
    have hrun : mrunS K n S = if (mstepS K S').2.2 = true ∨ (mstepS K S').1.ph ≠ 0 then mstepS K S' else mrunS K (n - (j + 1)) (mstepS K S').1 := by
      rw [← hI.out.2.1, show n - j = (n - (j + 1)) + 1 by omega]
      rfl
    have hout := hI.out.1.out
    have hle : (mstepS K S').1.out.length + 4200 * (n - (j + 1)) ≤ 900000000 := by have := hI.out.2.2; omega
    obtain ⟨R, hR⟩ : ∃ R, mstepS K S' = R := ⟨_, rfl⟩
    rw [hR] at dS hrun hle
    clear hout hR
    obtain ⟨S2, ⟨yh, yb, yv⟩, ok⟩ := R
    have HLE : Hid _ := hle
    clear hle
    have hoff : w1.heap.size < X.heap.size := by omega
    have HOF : Hid _ := hoff
    clear hoff
    cases ok
    case true =>
      have hd : true = true ∨ S2.ph ≠ 0 := .inl rfl
      have HRU : Hid (mrunS K n S = (S2, (yh, yb, yv), true)) := by
        show _ = _
        rw [hrun, if_pos hd]
      clear hrun hd
      go_wp2_with (first
        | (go_at_call 12; refine dS.mono ?_; rintro z2 w2 ⟨rfl, H2⟩; unfold ydV yl; have f4 := HFU.out w2 _ H2.out; have f5 : Full (w2.alloc (.cells #[.int .i64 yh, .bool yb, .int .i64 yv.1, .int .i64 yv.2.1, .string yv.2.2] 54)) w1.heap.size 54 [.int .i64 0, .bool false, .int .i64 0, .int .i64 0, .string Hp.e0] := f4.next ((Below.refl _ w2).alloc (Nat.le_refl _) _); obtain ⟨y0, g0⟩ := f5.cell 0 _ rfl; obtain ⟨y1, g1⟩ := f5.cell 1 _ rfl; obtain ⟨y2, g2⟩ := f5.cell 2 _ rfl; obtain ⟨y3, g3⟩ := f5.cell 3 _ rfl; obtain ⟨y4, g4⟩ := f5.cell 4 _ rfl; clear dS)
        | fail)
      refine bodyPost_ret (ret_run (B := w1.heap.size) (Full.put (g := w1.heap.size) (t := 54) [.int .i64 yh, .bool yb, .int .i64 yv.1, .int .i64 yv.2.1, .string yv.2.2] (a := []) (b := [.int .i64 0, .bool false, .int .i64 0, .int .i64 0, .string Hp.e0]) (d := []) f5 rfl) rfl rfl) rfl ?_
      rw [HRU.out]
      refine ⟨rfl, ?_⟩
      exact HEN.out _ _ _ H2.out (Kp.setCells (F := fun x => x = w1.heap.size) (B := w1.heap.size) (.inl rfl) [.int .i64 yh, .bool yb, .int .i64 yv.1, .int .i64 yv.2.1, .string yv.2.2] 0 (Kp.of ((Below.refl _ w2).alloc (Nat.le_refl _) _)))
    by_cases hp : S2.ph = 0
    case neg =>
      have hd : false = true ∨ S2.ph ≠ 0 := .inr hp
      have hp1 : (S2.ph == 0) = false := by simpa using hp
      have HRU : Hid (mrunS K n S = (S2, (yh, yb, yv), false)) := by
        show _ = _
        rw [hrun, if_pos hd]
      clear hrun hd
      go_wp2_with (first
        | (go_at_call 12; refine dS.mono ?_; rintro z2 w2 ⟨rfl, H2⟩; unfold ydV yl; have f4 := HFU.out w2 _ H2.out; have k15 := (H2.out.next ((Below.refl _ w2).alloc (Nat.le_refl _) (.cells #[.int .i64 yh, .bool yb, .int .i64 yv.1, .int .i64 yv.2.1, .string yv.2.2] 54))).k15; have f5 : Full (w2.alloc (.cells #[.int .i64 yh, .bool yb, .int .i64 yv.1, .int .i64 yv.2.1, .string yv.2.2] 54)) w1.heap.size 54 [.int .i64 0, .bool false, .int .i64 0, .int .i64 0, .string Hp.e0] := f4.next ((Below.refl _ w2).alloc (Nat.le_refl _) _); obtain ⟨y0, g0⟩ := f5.cell 0 _ rfl; obtain ⟨y1, g1⟩ := f5.cell 1 _ rfl; obtain ⟨y2, g2⟩ := f5.cell 2 _ rfl; obtain ⟨y3, g3⟩ := f5.cell 3 _ rfl; obtain ⟨y4, g4⟩ := f5.cell 4 _ rfl; clear dS)
        | fail)
      refine bodyPost_ret (ret_run (B := w1.heap.size) (Full.put (g := w1.heap.size) (t := 54) [.int .i64 yh, .bool yb, .int .i64 yv.1, .int .i64 yv.2.1, .string yv.2.2] (a := []) (b := [.int .i64 0, .bool false, .int .i64 0, .int .i64 0, .string Hp.e0]) (d := []) f5 rfl) rfl rfl) rfl ?_
      rw [HRU.out]
      refine ⟨rfl, ?_⟩
      exact HEN.out _ _ _ H2.out (Kp.setCells (F := fun x => x = w1.heap.size) (B := w1.heap.size) (.inl rfl) [.int .i64 yh, .bool yb, .int .i64 yv.1, .int .i64 yv.2.1, .string yv.2.2] 0 (Kp.of ((Below.refl _ w2).alloc (Nat.le_refl _) _)))
    have hd : ¬ (false = true ∨ S2.ph ≠ 0) := by simp [hp]
    have HRU : Hid (mrunS K n S = mrunS K (n - (j + 1)) S2) := by
      show _ = _
      rw [hrun, if_neg hd]
    clear hrun hd
    go_wp2_with (first
      | (go_at_call 12; refine dS.mono ?_; rintro z2 w2 ⟨rfl, H2⟩; unfold ydV yl; have k15 := (H2.out.next ((Below.refl _ w2).alloc (Nat.le_refl _) (.cells #[.int .i64 yh, .bool yb, .int .i64 yv.1, .int .i64 yv.2.1, .string yv.2.2] 54))).k15; rw [hp] at k15; clear dS)
      | fail)
    refine ⟨⟨j + 1, S2, hlt, by simp, H2.out.next ((Below.refl _ w2).alloc (Nat.le_refl _) _), HRU.out.symm, HLE.out⟩, ?_⟩
    show n - ((j : Int) + 1).toNat < n - ((j : Int)).toNat
    omega
end Go.Proofs.YtahdkffijlfmnaaGreatDoor
