import Derived.Test.YtahdkffijlfmnaaGreatDoorT10
import Derived.Test.YtahdkffijlfmnaaGreatDoorT25
namespace Go.Proofs.YtahdkffijlfmnaaGreatDoor.Hp
open Go.RowKit
theorem vas_take (vs : List V) (j : Nat) (hj : j < vs.length) : (vs.take (j + 1)).flatMap vaB = (vs.take j).flatMap vaB ++ vaB vs[j] := by
  rw [List.take_succ_eq_append_getElem hj, List.flatMap_append]
  simp
theorem vaB_def (k n : Int) (s : ByteArray) : vaB (k, n, s) = [byteOf k] ++ elB (k, n, s) := rfl
theorem bv_byte (l : List UInt8) (n : Int) : bv (l ++ [byteOf n]) = bv l ++ [.int .u8 (n % 256)] := by
  rw [bv_app]
  simp only [bv, List.map_cons, List.map_nil, byteOf_nat]
theorem wpList_ap2 {P : Program} {w : World} {ops : Array Oper} {rest : List Oper} {o : Oper} {a : Act} {Q : Exit → Act → World → Prop} {v' : Value} {w' : World} (hgd : o.guard = none) (s x : Operand) (t t2 : TypeId) (va vx : Value)
    (ho : o.op = .call { callee := .builtin .append, args := #[s, x], argTypes := #[t, t2] }) (ty : TypeId) (hty : o.type = ty) (hs : a.eval s = va) (hx : a.eval x = vx) (hr : (Builtin.append_ #[t, t2] ty #[va, vx]).run P w = .ok v' w')
    (h : wpList P ops Q rest (a.put o.dst v') w') : wpList P ops Q (o :: rest) a w := by
  subst hty hs hx
  refine wpList_plain hgd fun K hK => ?_
  unfold Oper.wp execOp
  simp only [ho, resolve, invoke, builtin, Sem.run_bind, Sem.run_pure, Result.andThen_ok, List.map_toArray, List.map_cons, List.map_nil, hr]
  exact hK _ _ h
theorem Grew.text {w w3 w5 : World} {base : Nat} {v0 v5 : Value} {g3 M c3 : Nat} {P : List UInt8} {s : ByteArray} (G : Grew w w3 base v0 (.slice (some ⟨g3, 0, none⟩) M c3) M P) (ho : w5.ownsRow base 5 1 v5 (M + s.size) (bv (P ++ s.data.toList))) (hg : w3.grownBy w5 (some g3)) (hv : v5.ownBlock = some g3 ∨ v5.ownBlock = some w3.heap.size) : Grew w w5 base v0 v5 (M + s.size) (P ++ s.data.toList) := by
  refine G.trans ⟨ho, (Kp.refl _ _).grown hg (fun k hk => .inl (by rw [← hk]; rfl)), fun g' hg' => ?_⟩
  rcases hv with r | r
  · exact .inl (by rw [← hg', r]; rfl)
  · rw [r] at hg'
    cases hg'
    exact .inr (Nat.le_refl _)
theorem Grew.first {w X w3 : World} {base : Nat} {v0 v3 : Value} {g2 M c : Nat} {P : List UInt8} {k : Int} {C : Obj} (G0 : Grew w X base v0 (.slice (some ⟨g2, 0, none⟩) M c) M P) (hg : (X.alloc C).grownBy w3 (Value.slice (some ⟨g2, 0, none⟩) M c).ownBlock) (hv : v3.ownBlock = (Value.slice (some ⟨g2, 0, none⟩) M c).ownBlock ∨ v3.ownBlock = some (X.heap.size + 1)) (ho : w3.ownsRow base 5 1 v3 (M + 1) (bv P ++ [.int .u8 (k % 256)])) (b : Nat) (hb : b < X.heap.size) (hne : b ≠ g2) :
    ∃ g3 c3, v3 = .slice (some ⟨g3, 0, none⟩) (M + 1) c3 ∧ Grew w w3 base v0 (.slice (some ⟨g3, 0, none⟩) (M + 1) c3) (M + 1) (P ++ [byteOf k]) ∧ (∀ o, w3.cell? ⟨b, o, none⟩ = X.cell? ⟨b, o, none⟩) ∧ g3 ≠ b ∧ X.heap.size ≤ w3.heap.size := by
  rw [← bv_byte] at ho
  have G1 := G0.step C hg hv ho
  obtain ⟨q, c3, rfl, -, hq⟩ := own_slice ho
  obtain ⟨g3, rfl, -⟩ := hq (by omega)
  have hbl : w3.heap[b]? = X.heap[b]? := by
    have e1 := hg.block b (by simp; omega) (fun e => hne (by cases e; rfl))
    have e2 := ((Below.refl X.heap.size X).alloc (Nat.le_refl _) C).block b hb
    exact e1.trans e2
  refine ⟨g3, c3, rfl, G1, fun o => World.cell?_of_block (w := X) (w' := w3) (a := ⟨b, o, none⟩) hbl, fun e => ?_, ?_⟩
  · rcases hv with r | r
    · cases r
      exact hne e.symm
    · have r : some g3 = some (X.heap.size + 1) := r
      have r := Option.some.inj r
      omega
  · have := hg.size
    simp at this
    omega
set_option maxRecDepth 100000 in
set_option maxHeartbeats 4000000 in
theorem appVals_any {w : World} {q : Option Addr} {vc_ : Nat} {vs : List V} (hv : RdS w q vs.length vc_ (vcs vs)) (hs : ∀ v ∈ vs, v.2.2.size ≤ 256) (hn : vs.length ≤ 100000) (base g cap m : Nat) (l : List UInt8) (ho : w.ownsRow base 5 1 (.slice (some ⟨g, 0, none⟩) m cap) m (bv l)) (hne : ∀ g' o', 0 < vs.length → q = some ⟨g', o', none⟩ → g' ≠ g) (hb : base ≤ w.heap.size) (hl : m + 300 * vs.length ≤ 800000000) :
    Calls Tryz.prog 38 #[.slice (some ⟨g, 0, none⟩) m cap, .slice q vs.length vc_] w fun e w' => ∃ v', e = .returned v' ∧ Hid (Grew w w' base (.slice (some ⟨g, 0, none⟩) m cap) v' (m + (vs.flatMap vaB).length) (l ++ vs.flatMap vaB)) := by
  have HV : Hid (RdS w q vs.length vc_ (vcs vs)) := hv
  have HS : Hid (∀ v ∈ vs, v.2.2.size ≤ 256) := hs
  have HG0 : Hid (Grew w w base (.slice (some ⟨g, 0, none⟩) m cap) (.slice (some ⟨g, 0, none⟩) m cap) (m + ((vs.take 0).flatMap vaB).length) (l ++ (vs.take 0).flatMap vaB)) := by
    show Grew w w base (.slice (some ⟨g, 0, none⟩) m cap) (.slice (some ⟨g, 0, none⟩) m cap) m (l ++ [])
    rw [List.append_nil]
    exact ⟨ho, Kp.refl _ _, fun g hg => .inl hg⟩
  have HNE : Hid (∀ g' o', 0 < vs.length → q = some ⟨g', o', none⟩ → g' ≠ g) := hne
  have hgl : g < w.heap.size := (own_blk ho g rfl).lt
  clear hv hs ho hne
  go_enter Tryz.func38, Tryz.ntmps38
  go_wp2_with fail
  go_loopw [0, 9] (fun b i wr => ∃ (j c : Nat) (g2 : Nat), j ≤ vs.length ∧ i = .int .i64 (j : Int) ∧ b = .slice (some ⟨g2, 0, none⟩) (m + ((vs.take j).flatMap vaB).length) c ∧ Hid (Grew w wr base (.slice (some ⟨g, 0, none⟩) m cap) (.slice (some ⟨g2, 0, none⟩) (m + ((vs.take j).flatMap vaB).length) c) (m + ((vs.take j).flatMap vaB).length) (l ++ (vs.take j).flatMap vaB))) (fun _ i _ => vs.length - (intOf i).toNat)
  case atStart => exact ⟨0, cap, g, Nat.zero_le _, rfl, rfl, HG0⟩
  case round =>
    clear HG0
    obtain ⟨j, c, g2, hj, rfl, rfl, hG⟩ := hrel
    have j0 : (0 : Int) ≤ (j : Int) := by omega
    by_cases hlt : j < vs.length
    case neg =>
      obtain rfl : j = vs.length := by omega
      rw [List.take_length] at hG ⊢
      go_wp2
      first | (change bodyPost Tryz.prog Tryz.f38 _ Exit.ret _ _) | (simp only [Exit.noGoto])
      go_ret
      exact ⟨_, rfl, hG⟩
    have j1 : (j : Int) < (vs.length : Int) := by omega
    have hw : IntKind.i64.wrap ((j : Int) + 1) = ((j + 1 : Nat) : Int) := by rw [IntKind.wrap_i64]; omega
    obtain ⟨fg, fo, hq, hrng⟩ := HV.out.at_ (by omega)
    have hfne := HNE.out fg fo (by omega) hq
    have hfl : fg < w.heap.size := block_lt_of_cell (hrng 0 (.int .i64 vs[0].1) ((flat_at vc 3 (fun _ => rfl) vs 0 0 (by omega) (by decide)).trans rfl))
    have hbl := hG.out.kp.block fg hfl (fun e => hfne (by cases e; rfl))
    have er := vcs_get (range_same hrng hbl) j hlt
    have hsz := HS.out vs[j] (List.getElem_mem hlt)
    have hmle : m + ((vs.take j).flatMap vaB).length ≤ 799999000 + 1000 - 300 := by
      have := vas_len (vs.take j) fun v hv => HS.out v (List.mem_of_mem_take hv)
      rw [List.length_take] at this
      omega
    have htk := vas_take vs j hlt
    obtain ⟨M, hM⟩ : ∃ M, m + ((vs.take j).flatMap vaB).length = M := ⟨_, rfl⟩
    obtain ⟨P, hP⟩ : ∃ P, l ++ (vs.take j).flatMap vaB = P := ⟨_, rfl⟩
    have HEN : Hid (m + ((vs.take (j + 1)).flatMap vaB).length = M + (vaB vs[j]).length ∧ l ++ (vs.take (j + 1)).flatMap vaB = P ++ vaB vs[j]) := by
      rw [htk, ← hM, ← hP]
      exact ⟨by rw [List.length_append]; omega, by rw [List.append_assoc]⟩
    rw [hM, hP] at hG
    rw [hM] at hmle ⊢
    clear htk hM hP
    generalize vs[j] = y at er hsz HEN
    obtain ⟨k, n, s⟩ := y
    have hsz : s.size ≤ 256 := hsz
    have a0 : wr.cell? ⟨fg, fo + j * 3, none⟩ = some (.int .i64 k) := er 0 _ rfl
    have a1 : wr.cell? ⟨fg, fo + j * 3 + 1, none⟩ = some (.int .i64 n) := er 1 _ rfl
    have a2 : wr.cell? ⟨fg, fo + j * 3 + 2, none⟩ = some (.string s) := er 2 _ rfl
    clear er hbl hrng hfne
    subst hq
    have B0 : Below wr.heap.size wr (wr.alloc (.cells #[.int .i64 k, .int .i64 n, .string s] 52)) := (Below.refl _ wr).alloc (Nat.le_refl _) _
    have b0 := Box3.new wr k n s 52
    have G0 := hG.out.next B0
    have hbw : base ≤ wr.heap.size := Nat.le_trans hb hG.out.kp.size
    have z0 : wr.heap.size < (wr.alloc (.cells #[.int .i64 k, .int .i64 n, .string s] 52)).heap.size := by simp
    have hg2 : g2 < wr.heap.size := (own_blk hG.out.own g2 rfl).lt
    by_cases h2 : k = 2
    · subst h2
      have H1 : Hid (∀ u ∈ (#[.int .u8 2] : Array Value).toList, u.oneCell' = true) := fun u hu => by
        obtain rfl := List.mem_singleton.1 (by simpa using hu)
        rfl
      go_upto_region 4 with fail
      generalize wr.alloc (.cells #[.int .i64 2, .int .i64 n, .string s] 52) = X at b0 G0 z0 ⊢
      obtain ⟨⟨⟨x0, -⟩, ⟨x1, -⟩⟩, x2, -⟩ := b0
      have HO : Hid (X.ownsRow base 5 1 (.slice (some ⟨g2, 0, none⟩) M c) M (bv P)) := G0.own
      have HG : Hid (Grew w X base (.slice (some ⟨g, 0, none⟩) m cap) (.slice (some ⟨g2, 0, none⟩) M c) M P) := G0
      have hne2 : wr.heap.size ≠ g2 := by omega
      clear G0
      have H2 : Hid (∀ u ∈ (#[.int .u8 (n % 256)] : Array Value).toList, u.oneCell' = true) := fun u hu => by
        obtain rfl := List.mem_singleton.1 (by simpa using hu)
        rfl
      go_wp2_with (first
        | (at_builtin; refine wpList_app 80 5 _ 1 1 Tryz.underlying80 info5 (by rfl) (by decide) (by decide) (by rfl) _ _ (by rfl) base (.slice (some ⟨g2, 0, none⟩) M c) M (bv P) (by rfl) HO.out _ (by rfl) H1.out (by rfl) (by omega) (by omega) ?_; intro v3 w3 ho3 hg3; obtain ⟨g3, c3, rfl, hG1, hcl, hg3b, hX3⟩ := Grew.first HG.out hg3.out.1 hg3.out.2 (show w3.ownsRow base 5 1 v3 (M + 1) (bv P ++ [.int .u8 (2 % 256)]) from ho3.out) wr.heap.size z0 hne2; have u0 := (hcl 0).trans x0; have u1 := (hcl 1).trans x1; have u2 := (hcl 2).trans x2; have HG1 : Hid (Grew w w3 base (.slice (some ⟨g, 0, none⟩) m cap) (.slice (some ⟨g3, 0, none⟩) (M + 1) c3) (M + 1) (P ++ [byteOf 2])) := hG1; clear hG1 hcl ho3 hg3)
        | (at_builtin; refine wpList_app 80 5 _ 1 1 Tryz.underlying80 info5 (by rfl) (by decide) (by decide) (by rfl) _ _ (by rfl) base (.slice (some ⟨g3, 0, none⟩) (M + 1) c3) (M + 1) (bv (P ++ [byteOf 2])) (by rfl) HG1.out.own _ (by rfl) H2.out (by rfl) (by omega) (by omega) ?_; intro v5 w5 ho5 hg5; have G5 := HG1.out.step _ hg5.out.1 hg5.out.2 ((congrArg (fun z => w5.ownsRow base 5 1 v5 (M + 1 + 1) z) (bv_byte (P ++ [byteOf 2]) n)).mpr ho5.out); obtain ⟨q5, c5, rfl, -, hq5⟩ := own_slice ho5.out; obtain ⟨g5, rfl, -⟩ := hq5 (by omega); have HG5 : Hid _ := G5; clear ho5 hg5 G5)
        | go_in)
      have hlen : M + (vaB (2, n, s)).length = M + 1 + 1 := rfl
      have hvab : P ++ vaB (2, n, s) = P ++ [byteOf 2] ++ [byteOf n] := by rw [List.append_assoc]; rfl
      have HGF := HG5
      refine ⟨⟨j + 1, c5, g5, by omega, by push_cast; rfl, ?_, ?_⟩, ?_⟩
      · rw [HEN.out.1, hlen]
      · rw [HEN.out.1, HEN.out.2, hlen, hvab]
        exact HGF
      · show vs.length - ((j : Int) + 1).toNat < vs.length - ((j : Int)).toNat
        omega
    have h2' : (k == 2) = false := by simpa using h2
    by_cases h3 : k = 3
    · subst h3
      clear h2
      have H1 : Hid (∀ u ∈ (#[.int .u8 3] : Array Value).toList, u.oneCell' = true) := fun u hu => by
        obtain rfl := List.mem_singleton.1 (by simpa using hu)
        rfl
      go_upto_region 4 with fail
      generalize wr.alloc (.cells #[.int .i64 3, .int .i64 n, .string s] 52) = X at b0 G0 z0 ⊢
      obtain ⟨⟨⟨x0, -⟩, ⟨x1, -⟩⟩, x2, -⟩ := b0
      have HO : Hid (X.ownsRow base 5 1 (.slice (some ⟨g2, 0, none⟩) M c) M (bv P)) := G0.own
      have HG : Hid (Grew w X base (.slice (some ⟨g, 0, none⟩) m cap) (.slice (some ⟨g2, 0, none⟩) M c) M P) := G0
      have hne2 : wr.heap.size ≠ g2 := by omega
      clear G0
      go_wp2_with (first
        | (at_builtin; refine wpList_app 80 5 _ 1 1 Tryz.underlying80 info5 (by rfl) (by decide) (by decide) (by rfl) _ _ (by rfl) base (.slice (some ⟨g2, 0, none⟩) M c) M (bv P) (by rfl) HO.out _ (by rfl) H1.out (by rfl) (by omega) (by omega) ?_; intro v3 w3 ho3 hg3; obtain ⟨g3, c3, rfl, hG1, hcl, hg3b, hX3⟩ := Grew.first HG.out hg3.out.1 hg3.out.2 (show w3.ownsRow base 5 1 v3 (M + 1) (bv P ++ [.int .u8 (3 % 256)]) from ho3.out) wr.heap.size z0 hne2; have u0 := (hcl 0).trans x0; have u1 := (hcl 1).trans x1; have u2 := (hcl 2).trans x2; have HG1 : Hid (Grew w w3 base (.slice (some ⟨g, 0, none⟩) m cap) (.slice (some ⟨g3, 0, none⟩) (M + 1) c3) (M + 1) (P ++ [byteOf 3])) := hG1; clear hG1 hcl ho3 hg3)
        | (go_at_call 37; go_loud (refine (mappNum_any (s.size : Int) 2 (by decide) base _ (M + 1) (P ++ [byteOf 3]) w3 HG1.out.own (by omega) (by omega)).mono ?_; rintro e4 w4 ⟨v4, rfl, hg4⟩; have e42 : w4.cell? ⟨wr.heap.size, 2, none⟩ = some (.string s) := (World.cell?_of_block (w := w3) (w' := w4) (a := ⟨wr.heap.size, 2, none⟩) (hg4.out.kp.block _ (by show wr.heap.size < w3.heap.size; omega) (fun e => hg3b (by cases e; rfl)))).trans u2; have G4 := HG1.out.trans hg4.out; obtain ⟨q4, c4, rfl, -, hq4⟩ := own_slice G4.own; obtain ⟨g4, rfl, -⟩ := hq4 (by omega); have h4b := G4.kp.size; obtain ⟨v5, w5, r5, o5, gr5, ob5⟩ := run_appS w4 80 base g4 c4 (M + 1 + 2) _ s G4.own (by omega) (by omega); have G5 := G4.text o5 gr5 ob5; obtain ⟨q5, c5, rfl, -, hq5⟩ := own_slice G5.own; obtain ⟨g5, rfl, -⟩ := hq5 (by omega); have HG5 : Hid _ := G5; clear hg4 G4 G5 o5 gr5 ob5))
        | (at_builtin; refine wpList_ap2 (by rfl) _ _ 80 9 _ _ (by rfl) 80 (by rfl) (by rfl) (by rfl) r5 ?_)
        | go_in)
      have he : elB (3, n, s) = numB (s.size : Int) 2 ++ s.data.toList := by unfold elB; rw [if_neg (show ¬ (3 : Int) = 2 by decide), if_pos rfl]
      have hlen : M + (vaB (3, n, s)).length = M + 1 + 2 + s.size := by rw [vaB_def, he, List.length_append, List.length_append, numB_len, ← Lib.size_eq s]; simp; omega
      have hvab : P ++ vaB (3, n, s) = P ++ [byteOf 3] ++ numB (s.size : Int) 2 ++ s.data.toList := by rw [List.append_assoc, List.append_assoc, vaB_def, he]
      have HGF := HG5
      refine ⟨⟨j + 1, c5, g5, by omega, by push_cast; rfl, ?_, ?_⟩, ?_⟩
      · rw [HEN.out.1, hlen]
      · rw [HEN.out.1, HEN.out.2, hlen, hvab]
        exact HGF
      · show vs.length - ((j : Int) + 1).toNat < vs.length - ((j : Int)).toNat
        omega
    have h3' : (k == 3) = false := by simpa using h3
    have H1 : Hid (∀ u ∈ (#[.int .u8 (k % 256)] : Array Value).toList, u.oneCell' = true) := fun u hu => by
      obtain rfl := List.mem_singleton.1 (by simpa using hu)
      rfl
    go_upto_region 4 with fail
    generalize wr.alloc (.cells #[.int .i64 k, .int .i64 n, .string s] 52) = X at b0 G0 z0 ⊢
    obtain ⟨⟨⟨x0, -⟩, ⟨x1, -⟩⟩, x2, -⟩ := b0
    have HO : Hid (X.ownsRow base 5 1 (.slice (some ⟨g2, 0, none⟩) M c) M (bv P)) := G0.own
    have HG : Hid (Grew w X base (.slice (some ⟨g, 0, none⟩) m cap) (.slice (some ⟨g2, 0, none⟩) M c) M P) := G0
    have hne2 : wr.heap.size ≠ g2 := by omega
    clear G0
    go_wp2_with (first
      | (at_builtin; refine wpList_app 80 5 _ 1 1 Tryz.underlying80 info5 (by rfl) (by decide) (by decide) (by rfl) _ _ (by rfl) base (.slice (some ⟨g2, 0, none⟩) M c) M (bv P) (by rfl) HO.out _ (by rfl) H1.out (by rfl) (by omega) (by omega) ?_; intro v3 w3 ho3 hg3; obtain ⟨g3, c3, rfl, hG1, hcl, hg3b, hX3⟩ := Grew.first HG.out hg3.out.1 hg3.out.2 (show w3.ownsRow base 5 1 v3 (M + 1) (bv P ++ [.int .u8 (k % 256)]) from ho3.out) wr.heap.size z0 hne2; have u0 := (hcl 0).trans x0; have u1 := (hcl 1).trans x1; have u2 := (hcl 2).trans x2; have HG1 : Hid (Grew w w3 base (.slice (some ⟨g, 0, none⟩) m cap) (.slice (some ⟨g3, 0, none⟩) (M + 1) c3) (M + 1) (P ++ [byteOf k])) := hG1; clear hG1 hcl ho3 hg3)
      | (go_at_call 37; refine (mappNum_any n 8 (by decide) base _ (M + 1) (P ++ [byteOf k]) w3 HG1.out.own (by omega) (by omega)).mono ?_; rintro e5 w5 ⟨v5, rfl, hg5⟩; have G5 := HG1.out.trans hg5.out; obtain ⟨q5, c5, rfl, -, hq5⟩ := own_slice G5.own; obtain ⟨g5, rfl, -⟩ := hq5 (by omega); have HG5 : Hid _ := G5; clear hg5 G5)
      | go_in)
    have he : elB (k, n, s) = numB n 8 := by unfold elB; rw [if_neg h2, if_neg h3]
    have hlen : M + (vaB (k, n, s)).length = M + 1 + 8 := by rw [vaB_def, he, List.length_append, numB_len]; simp
    have hvab : P ++ vaB (k, n, s) = P ++ [byteOf k] ++ numB n 8 := by rw [List.append_assoc, vaB_def, he]
    have HGF := HG5
    refine ⟨⟨j + 1, c5, g5, by omega, by push_cast; rfl, ?_, ?_⟩, ?_⟩
    · rw [HEN.out.1, hlen]
    · rw [HEN.out.1, HEN.out.2, hlen, hvab]
      exact HGF
    · show vs.length - ((j : Int) + 1).toNat < vs.length - ((j : Int)).toNat
      omega
end Go.Proofs.YtahdkffijlfmnaaGreatDoor.Hp
