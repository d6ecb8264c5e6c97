import Derived.Test.YtekgnogjfggnmaaGreatDoorN35
import Derived.Test.YtekgnogjfggnmaaGreatDoorN13
namespace Go.Proofs.YtekgnogjfggnmaaGreatDoor
open Go.RowKit Go.Shelf
set_option maxRecDepth 100000
set_option maxHeartbeats 4000000
theorem own_other {w w' : World} {e : TypeId} (h : Lib.OthersKept e none w w') {b size n : Nat} {t : TypeId} {v : Value} {xs : List Value} (ho : w.ownsRow b t size v n xs) (ht : t ≠ e) : w'.ownsRow b t size v n xs := by
 refine ⟨ho.1, ?_⟩
 rcases ho.2 with hn | ⟨g, cap, cur, rfl, hb, hgg, rest⟩
 ·exact .inl hn
 ·exact .inr ⟨g, cap, cur, rfl, hb, h g _ hgg (by simp) (fun c' fz' q => ht (by injection q)), rest⟩
theorem wpList_appZ {w : World} {ops : Array Oper} {rest : List Oper} {o : Oper} {a : Act} {Q : Exit → Act → World → Prop} (hgd : o.guard = none) (s x : Operand)
 (ho : o.op = .call { callee := .builtin .append, args := #[s, x], argTypes := #[45, 45] })
 (base : Nat) (v : Value) (l : List Int) (n : Nat) (hn : l.length = n) (k : Int) (hs : a.eval s = v) (hx : a.eval x = .slice (some ⟨w.heap.size, 0, none⟩) 1 1) (hown : Hid (w.ownsRow base 3 1 v n (iv l))) (h40 : n + 1 ≤ 1073741824) (hbase : base ≤ w.heap.size)
 (h : ∀ v' w', Hid (w'.ownsRow base 3 1 v' (n + 1) (iv (l ++ [k]))) → Hid (Below base w w' ∧ Lib.OthersKept 3 none w w') → wpList Tryz.prog ops Q rest (a.put o.dst v') w') : wpList Tryz.prog ops Q (o :: rest) a (w.alloc (.cells #[.int .i64 k] 3)) := by
 obtain ⟨i0, hi, hz0, hz1, hz2⟩ := info_parts info3
 have ho2 := World.ownsRow.alloc hown.out (.cells #[.int .i64 k] 3)
 obtain ⟨v', w', hr, h2, h3, _⟩ := run_append_own (P := Tryz.prog) (w.alloc (.cells #[.int .i64 k] 3)) base 45 o.type 3 i0 _ 1 8 Tryz.underlying45 hi hz0 hz1 hz2 rfl (by decide) v n (iv l) ho2 ⟨w.heap.size, 0, none⟩ 1 1 [.int .i64 k] rfl
  (World.news_of_block (heap_alloc_new w _)) (by intro u hu; rw [List.mem_singleton.1 hu]; rfl) (by unfold maxLen; omega) (by omega) (by simp; omega)
 refine wpList_plain hgd fun K hK => ?_
 unfold Oper.wp execOp
 simp only [ho, resolve, invoke, builtin, Sem.run_bind, Sem.run_pure, Result.andThen_ok, List.map_toArray, List.map_cons, List.map_nil, hs, hx, hr]
 refine hK _ _ (h v' w' ?_ ?_)
 ·show w'.ownsRow base 3 1 v' (n + 1) (iv (l ++ [k]))
  rw [iv_app]
  exact h2
 ·exact ⟨((Below.refl base w).alloc hbase _).grown h3 (by simp; omega) (own_ge ho2), ((Lib.OthersKept.refl _ _ _).alloc _).grown h3 (Lib.ownsRow_kind ho2)⟩
theorem own_row {w : World} {base : Nat} {e : TypeId} {v : Value} {n : Nat} {l : List Int} (h : w.ownsRow base e 1 v n (iv l)) :
 ∃ ov cap, v = .slice ov n cap ∧ n ≤ cap ∧ (0 < n → ∃ g, ov = some ⟨g, 0, none⟩ ∧ ∀ j x, l[j]? = some x → w.cell? ⟨g, j, none⟩ = some (.int .i64 x)) := by
 rcases h.2 with ⟨rfl, hn⟩ | ⟨g, cap, cur, hv, hb, hg, hnc, hcm, hcs, htake⟩
 ·subst hn; exact ⟨none, 0, rfl, Nat.le_refl _, fun h => by omega⟩
 ·refine ⟨_, cap, hv, hnc, fun _ => ⟨g, rfl, fun j x hx => ?_⟩⟩
  have := h.cells (g := g) (by rw [hv]; rfl) j (.int .i64 x) (by unfold iv; rw [List.getElem?_map, hx]; rfl)
  rw [show (⟨g, 0, none⟩ : Addr).add j = ⟨g, j, none⟩ by by_cases hj : j = 0 <;> simp [Addr.add, hj]] at this
  exact this
theorem BRow.form {w : World} {base : Nat} {v : Value} {l : List UInt8} (h : BRow w base v l) : ∃ ov cap, v = .slice ov l.length cap := by
 rcases h.2 with ⟨rfl, hn⟩ | ⟨g, cap, cur, hv, _⟩
 ·exact ⟨none, 0, by rw [hn]⟩
 ·exact ⟨_, cap, hv⟩
theorem dump_any (w : World) (p : Option Addr) (n cap : Nat) (L : List Nd) (h : Reads w p n L) (hk : KwAt w) (ht : DTab w) (hr : Rng L) (hp : RngP L) (h7 : 15 ≤ w.heap.size) :
 Calls Tryz.prog 6 #[.agg #[.slice p n cap]] w fun e w' => e = .returned (.tuple #[.string ⟨(dumpS L).1.toArray⟩, .int .i64 (dumpS L).2]) ∧ Below w.heap.size w w' := by
 obtain ⟨w1, hw1⟩ : ∃ w1, w.alloc (.cells #[.slice p n cap] 24) = w1 := ⟨_, rfl⟩
 have B1 : Hid (Below w.heap.size w w1) := by rw [← hw1]; exact (Below.refl _ w).alloc (Nat.le_refl _) _
 have z1 : w.heap.size < w1.heap.size := by rw [← hw1]; simp
 have c1 : w1.cell? ⟨w.heap.size, 0, none⟩ = some (.slice p n cap) := by rw [← hw1]; exact cell_new _ _ _ _ _ rfl
 have RD : Hid (Reads w1 p n L) := h.next B1.out
 obtain ⟨hf, hlen, hrd⟩ := RD.out
 subst hlen
 have H30 : Hid (Calls Tryz.prog 16 #[.slice p L.length cap] w1 fun e w' => e = .returned (.bool (treeS nameS typeS L)) ∧ Below w1.heap.size w1 w') := isTree_any w1 p cap L hf hrd (hk.next B1.out)
 have HT : Hid (DTab w1) := ht.on B1.out h7
 clear h hk ht
 cases htr : treeS nameS typeS L with
 | false =>
  rw [dump_no htr]
  rw [htr] at H30
  clear htr RD hrd hf hr hp
  go_enter Tryz.func6, Tryz.ntmps6
  go_wp2_with (first
   | (go_at_call 16; refine H30.out.mono ?_; rintro e w2 ⟨rfl, hb2⟩)
   | go_in)
  go_ret2
  exact ⟨rfl, B1.out.trans (hb2.mono B1.out.size)⟩
 | true =>
  rw [htr] at H30
  have hT := tr_of htr
  have HTR : Hid (Tr L) := hT
  have HTM : Hid (∀ m, m < L.length → Tame (nd L m)) := fun m hm => tame_of htr hr hp hm
  have HOK : Hid ((dmp L L.length).length ≤ 4194304 → dumpS L = (dmp L L.length, 0)) := dump_ok htr
  have HLG : Hid (∀ m, m ≤ L.length → 4194304 < (dmp L m).length → dumpS L = ([], 2)) := fun m hm h => dump_long htr hm h
  have hLp := hT.pos
  obtain ⟨g, o, rfl, hl⟩ := hrd (fun e => by rw [e] at hLp; simp at hLp)
  have HL : Hid (Lay w1 g o L) := hl
  have hLb := hf.len
  obtain ⟨rr, hrr⟩ : ∃ rr, dumpS L = rr := ⟨_, rfl⟩
  rw [hrr] at HOK HLG ⊢
  clear htr hT hl RD hrd hf hr hp hrr hLp
  go_enter Tryz.func6, Tryz.ntmps6
  go_upto_region 5 with (first
   | (go_at_call 16; refine H30.out.mono ?_; rintro e w2 ⟨rfl, hb2⟩)
   | go_in)
  have B2 : Hid (Below w.heap.size w w2) := B1.out.trans (hb2.mono B1.out.size)
  have z2 : w.heap.size < w2.heap.size := Nat.lt_of_lt_of_le z1 hb2.size
  have c2 := (hb2.cell (p := ⟨w.heap.size, 0, none⟩) z1).trans c1
  have HLW : Hid (∀ w', Below w2.heap.size w2 w' → Lay w' g o L) := fun w' hb => (HL.out.next hb2).next hb
  have HTW : Hid (∀ w', Below w2.heap.size w2 w' → DTab w' ∧ w2.heap.size ≤ w'.heap.size) := fun w' hb => ⟨(HT.out.on hb2 (by omega)).on hb (by omega), hb.size⟩
  clear HL HT H30 hb2 c1 hw1 B1
  go_wp2
  go_loopw [4, 5, 15] (fun s4 s5 s15 wr => ∃ m : Nat, m ≤ L.length ∧ s15 = .int .i64 (m : Int) ∧ (dmp L m).length ≤ 4194304 ∧ Hid (BRow wr w2.heap.size s4 (dmp L m)) ∧ Hid (wr.ownsRow w2.heap.size 3 1 s5 (opn L m).length (iv (endsL L (opn L m)))) ∧ Hid (Below w2.heap.size w2 wr)) (fun _ _ s15 _ => L.length - (intOf s15).toNat)
  case atStart => exact ⟨0, by omega, rfl, by simp [dmp], World.ownsRow_nil _ _ _ _, World.ownsRow_nil _ _ _ _, Below.refl _ _⟩
  case round =>
   obtain ⟨m, hm, rfl, hdl, hO, hE, hB⟩ := hrel
   by_cases hlt : m < L.length
   ·have hml : m ≤ 4194304 := Nat.le_trans (dmp_ge L m) hdl
    have j0 : (0 : Int) ≤ (m : Int) := by omega
    have j1 : (m : Int) < (L.length : Int) := by omega
    have j3 : IntKind.i64.wrap ((m : Int) + 1) = (m : Int) + 1 := by rw [IntKind.wrap_i64]; omega
    have htm := HTM.out m hlt
    obtain ⟨g1, g2⟩ := HTR.out.good m hlt
    have dA := (HLW.out _ hB.out).c m hlt
    have HDN : Hid (dmp L (m + 1) = dmp L m ++ (blk (dep L m) ++ lnS (nd L m))) := rfl
    have HON : Hid (endsL L (opn L (m + 1)) = endsL L (onW L m m) ++ [(m : Int) + sz L m]) := by
     show _ = _
     rw [HTR.out.opn_next hlt, endsL_app]
     rfl
    have HOL : Hid ((opn L (m + 1)).length = dep L m + 1) := by
     show _ = _
     rw [HTR.out.opn_next hlt, List.length_append]
     rfl
    obtain ⟨T, hsp, hTe, hWe⟩ := HTR.out.opn_split hm
    have HSP : Hid (opn L m = onW L m m ++ T) := hsp
    have HTE : Hid (∀ t ∈ T, (t : Int) + sz L t = m) := hTe
    have HWE : Hid (∀ t ∈ onW L m m, (m : Int) < t + sz L t) := hWe
    clear hsp hTe hWe
    unfold sz at g1 g2 HON
    obtain ⟨y, hy⟩ : ∃ y, nd L m = y := ⟨_, rfl⟩
    rw [hy] at dA htm g1 g2 HDN HON
    clear hy
    have HTMY : Hid (Tame y) := htm
    clear htm
    obtain ⟨kd, ps, nm, lb, ty, op, it, tx, zz⟩ := y
    simp only at g1 g2
    have a0 : wr.cell? ⟨g, o + m * 9, none⟩ = some (.int .i64 kd) := dA 0 _ rfl
    have a1 : wr.cell? ⟨g, o + m * 9 + 1, none⟩ = some (.int .i64 ps) := dA 1 _ rfl
    have a2 : wr.cell? ⟨g, o + m * 9 + 2, none⟩ = some (.string nm) := dA 2 _ rfl
    have a3 : wr.cell? ⟨g, o + m * 9 + 3, none⟩ = some (.string lb) := dA 3 _ rfl
    have a4 : wr.cell? ⟨g, o + m * 9 + 4, none⟩ = some (.string ty) := dA 4 _ rfl
    have a5 : wr.cell? ⟨g, o + m * 9 + 5, none⟩ = some (.int .i64 op) := dA 5 _ rfl
    have a6 : wr.cell? ⟨g, o + m * 9 + 6, none⟩ = some (.int .i64 it) := dA 6 _ rfl
    have a7 : wr.cell? ⟨g, o + m * 9 + 7, none⟩ = some (.string tx) := dA 7 _ rfl
    have a8 : wr.cell? ⟨g, o + m * 9 + 8, none⟩ = some (.int .i64 zz) := dA 8 _ rfl
    clear dA
    obtain ⟨wx, hwx⟩ : ∃ wx, wr.alloc (.cells (ndV ⟨kd, ps, nm, lb, ty, op, it, tx, zz⟩) 42) = wx := ⟨_, rfl⟩
    have bx : Hid (wx.heap[wr.heap.size]? = some (.cells (ndV ⟨kd, ps, nm, lb, ty, op, it, tx, zz⟩) 42 (0, 0))) := by rw [← hwx]; exact heap_alloc_new _ _
    have BX : Hid (Below wr.heap.size wr wx) := by rw [← hwx]; exact (Below.refl _ wr).alloc (Nat.le_refl _) _
    have HXC : Hid (∀ w' (j : Nat) (u : Value), Kp w2.heap.size wx w' → (ndV ⟨kd, ps, nm, lb, ty, op, it, tx, zz⟩)[j]? = some u → w'.cell? ⟨wr.heap.size, j, none⟩ = some u) := fun w' j u hb hu => by
     rw [hb.cell bx.out (by decide), ← hwx]; exact cell_new _ _ _ _ _ hu
    have OX : Hid (BRow wx w2.heap.size u4 (dmp L m)) := hO.out.stays BX.out
    have EX : Hid (wx.ownsRow w2.heap.size 3 1 u5 (opn L m).length (iv (endsL L (opn L m)))) := own_stays hE.out BX.out
    have zB := hB.out.size
    have BXW : Hid (Below w2.heap.size w2 wx) := hB.out.trans (BX.out.mono zB)
    clear hO hE hB BX
    unfold ndV at hwx
    go_wp2_with fail
    clear hwx a0 a1 a2 a3 a4 a5 a6 a7 a8
    go_loop [5] (fun s5 => ∃ r : Nat, dep L m ≤ r ∧ r ≤ (opn L m).length ∧ Hid (wx.ownsRow w2.heap.size 3 1 s5 r (iv ((endsL L (opn L m)).take r)))) (fun s5 => match s5 with | .slice _ n _ => n | _ => 0)
    case atStart => exact ⟨(opn L m).length, by rw [HSP.out, List.length_append]; exact Nat.le_add_right _ _, Nat.le_refl _, by rw [List.take_of_length_le (by rw [endsL_len]; exact Nat.le_refl _)]; exact EX⟩
    case round =>
     clear EX
     obtain ⟨r, hr1, hr2, hE⟩ := hrel
     obtain ⟨ov, cp, hu5, hncp, hg⟩ := own_row hE.out
     subst hu5
     have hrm : r ≤ m := by
      have : (opn L m).length ≤ m := by rw [opn_filter]; exact Nat.le_trans (List.length_filter_le _ _) (by rw [List.length_range]; exact Nat.le_refl _)
      omega
     by_cases hrd : r = dep L m
     ·have hEt : Hid (wx.ownsRow w2.heap.size 3 1 (.slice ov r cp) r (iv (endsL L (onW L m m)))) := by
       have h := hE.out
       rw [HSP.out, endsL_app, List.take_left' (by rw [endsL_len]; exact hrd.symm)] at h
       exact h
      have hEL : (endsL L (onW L m m)).length = r := by rw [endsL_len]; exact hrd.symm
      have HTP : Hid (0 < r → ∃ g5, ov = some ⟨g5, 0, none⟩ ∧ ∃ x : Int, wx.cell? ⟨g5, r - 1, none⟩ = some (.int .i64 x) ∧ (x == (m : Int)) = false) := by
       intro h0
       obtain ⟨g5, rfl, hc5⟩ := hg h0
       have hlt2 : r - 1 < (onW L m m).length := by show r - 1 < dep L m; omega
       refine ⟨g5, rfl, _, hc5 (r - 1) (((onW L m m)[r - 1] : Nat) + sz L ((onW L m m)[r - 1])) ?_, ?_⟩
       ·rw [List.getElem?_take_of_lt (by omega), HSP.out, endsL_app, List.getElem?_append_left (by rw [endsL_len]; exact hlt2)]
        unfold endsL
        rw [List.getElem?_map, List.getElem?_eq_getElem hlt2]
        rfl
       ·have := HWE.out _ (List.getElem_mem hlt2)
        rw [beq_eq_false_iff_ne]
        omega
      clear hg hE hr1 hr2 HSP HTE HWE
      have HDR : Hid (r = dep L m) := hrd
      rw [← hrd] at HDN HOL
      clear hrd
      have c0 := HXC.out wx 0 (.int .i64 kd) (Kp.refl _ _) rfl
      have c1 := HXC.out wx 1 (.int .i64 ps) (Kp.refl _ _) rfl
      have c2' := HXC.out wx 2 (.string nm) (Kp.refl _ _) rfl
      have c3 := HXC.out wx 3 (.string lb) (Kp.refl _ _) rfl
      have c4 := HXC.out wx 4 (.string ty) (Kp.refl _ _) rfl
      have c5 := HXC.out wx 5 (.int .i64 op) (Kp.refl _ _) rfl
      have c6 := HXC.out wx 6 (.int .i64 it) (Kp.refl _ _) rfl
      have c7 := HXC.out wx 7 (.string tx) (Kp.refl _ _) rfl
      have c8 := HXC.out wx 8 (.int .i64 zz) (Kp.refl _ _) rfl
      have H64 : Hid (Calls Tryz.prog 17 #[u4, .agg (ndV ⟨kd, ps, nm, lb, ty, op, it, tx, zz⟩), .int .i64 (r : Int)] wx fun e w' => ∃ v', e = .returned v' ∧ Hid (BRow w' w2.heap.size v' (dmp L (m + 1))) ∧ Hid (Kp w2.heap.size wx w')) := by
       rw [HDN.out]
       exact appendLine_any w2.heap.size u4 (dmp L m) _ r wx OX.out (by omega) (by omega) BXW.out.size (by omega) (HTW.out _ BXW.out).1 HTMY.out
      unfold ndV at H64
      obtain ⟨l1, hl1⟩ : ∃ l1, dmp L (m + 1) = l1 := ⟨_, rfl⟩
      have HL1 : Hid (dmp L (m + 1) = l1) := hl1
      rw [hl1] at H64
      have HLG1 : Hid (4194304 < l1.length → rr = ([], 2)) := by rw [← hl1]; exact HLG.out (m + 1) (by omega)
      clear hl1 HDN OX HTMY HOK HLG
      have hcut0 : r = 0 ∨ 0 < r := by omega
      rcases hcut0 with h0 | h0
      ·subst h0
       clear HTP
       go_upto_region 11 with (first
        | (go_at_call 17; refine H64.out.mono ?_; rintro e w3 ⟨v3, rfl, ho3, hk3⟩; obtain ⟨ov3, cp3, hv3⟩ := ho3.out.form; subst hv3)
        | go_in)
       have hB3 : w2.heap.size ≤ w3.heap.size := Nat.le_trans BXW.out.size hk3.out.size
       have BW3 : Hid (Below w2.heap.size w2 w3) := BXW.out.trans hk3.out.1
       have E3 : Hid (w3.ownsRow w2.heap.size 3 1 (.slice (ov) (0) cp) (0) (iv (endsL L (onW L m m)))) := hk3.out.owns hEt.out (by decide)
       by_cases hbig : 4194304 < l1.length
       ·have hb1 : (4194304 : Int) < (l1.length : Int) := by omega
        obtain rfl := HLG1.out hbig
        go_wp2
        go_ret2
        exact ⟨rfl, B2.out.trans (BW3.out.mono (by omega))⟩
       ·have hb1 : ¬ (4194304 : Int) < (l1.length : Int) := by omega
        have d8 := HXC.out w3 8 (.int .i64 zz) hk3.out rfl
        have j5 : IntKind.i64.wrap ((m : Int) + zz) = (m : Int) + zz := by rw [IntKind.wrap_i64]; omega
        go_wp2_with (first
         | (at_builtin; refine wpList_appZ (by rfl) _ _ (by rfl) w2.heap.size _ (endsL L (onW L m m)) (0) hEL ((m : Int) + zz) (by rfl) (by rfl) E3 (by omega) hB3 ?_; intro v5 w5 ho5 hk5)
         | go_in)
        go_wp2
        refine ⟨⟨m + 1, by omega, by go_num, by rw [HL1.out]; omega, ?_, ?_, BW3.out.trans hk5.out.1⟩, by simp [intOf]; omega⟩
        ·rw [HL1.out]; exact own_other hk5.out.2 ho3.out (by decide)
        ·rw [HON.out, HOL.out]; exact ho5
      ·obtain ⟨g5, rfl, x5, hx5, hne5⟩ := HTP.out h0
       clear HTP
       obtain ⟨r', rfl⟩ : ∃ r', r = r' + 1 := ⟨r - 1, by omega⟩
       rw [Nat.add_sub_cancel] at hx5
       have e1 : ((r' + 1 : Nat) : Int) = (r' : Int) + 1 := by omega
       have e2 : IntKind.i64.wrap ((r' : Int) + 1 - 1) = (r' : Int) := by rw [IntKind.wrap_i64]; omega
       go_upto_region 11 with (first
        | (go_at_call 17; refine H64.out.mono ?_; rintro e w3 ⟨v3, rfl, ho3, hk3⟩; obtain ⟨ov3, cp3, hv3⟩ := ho3.out.form; subst hv3)
        | go_in)
       have hB3 : w2.heap.size ≤ w3.heap.size := Nat.le_trans BXW.out.size hk3.out.size
       have BW3 : Hid (Below w2.heap.size w2 w3) := BXW.out.trans hk3.out.1
       have E3 : Hid (w3.ownsRow w2.heap.size 3 1 (.slice (some ⟨g5, 0, none⟩) (r' + 1) cp) (r' + 1) (iv (endsL L (onW L m m)))) := hk3.out.owns hEt.out (by decide)
       by_cases hbig : 4194304 < l1.length
       ·have hb1 : (4194304 : Int) < (l1.length : Int) := by omega
        obtain rfl := HLG1.out hbig
        go_wp2
        go_ret2
        exact ⟨rfl, B2.out.trans (BW3.out.mono (by omega))⟩
       ·have hb1 : ¬ (4194304 : Int) < (l1.length : Int) := by omega
        have d8 := HXC.out w3 8 (.int .i64 zz) hk3.out rfl
        have j5 : IntKind.i64.wrap ((m : Int) + zz) = (m : Int) + zz := by rw [IntKind.wrap_i64]; omega
        go_wp2_with (first
         | (at_builtin; refine wpList_appZ (by rfl) _ _ (by rfl) w2.heap.size _ (endsL L (onW L m m)) (r' + 1) hEL ((m : Int) + zz) (by rfl) (by rfl) E3 (by omega) hB3 ?_; intro v5 w5 ho5 hk5)
         | go_in)
        go_wp2
        refine ⟨⟨m + 1, by omega, by go_num, by rw [HL1.out]; omega, ?_, ?_, BW3.out.trans hk5.out.1⟩, by simp [intOf]; omega⟩
        ·rw [HL1.out]; exact own_other hk5.out.2 ho3.out (by decide)
        ·rw [HON.out, HOL.out]; exact ho5
     ·obtain ⟨g5, rfl, hc5⟩ := hg (by omega)
      have hT5 : ((endsL L (opn L m)).take r)[r - 1]? = some (m : Int) := by
       rw [List.getElem?_take_of_lt (by omega), HSP.out, endsL_app, List.getElem?_append_right (by rw [endsL_len]; show dep L m ≤ _; omega)]
       unfold endsL
       rw [List.getElem?_map, List.length_map]
       have hlt2 : r - 1 - (onW L m m).length < T.length := by
        have := congrArg List.length HSP.out
        rw [List.length_append] at this
        have e : (onW L m m).length = dep L m := rfl
        omega
       rw [List.getElem?_eq_getElem hlt2]
       exact congrArg some (HTE.out _ (List.getElem_mem hlt2))
      have c5 := hc5 (r - 1) (m : Int) hT5
      have HH : Hid (wx.ownsRow w2.heap.size 3 1 (.slice (some ⟨g5, 0, none⟩) (r - 1) cp) (r - 1) (iv ((endsL L (opn L m)).take (r - 1)))) := by
       refine ApI.own_head hE.out (by omega) ?_ ?_
       ·unfold iv; rw [List.map_take, List.map_take, List.take_take]; congr 1; omega
       ·unfold iv; rw [List.length_map, List.length_take, endsL_len]; omega
      obtain ⟨r', rfl⟩ : ∃ r', r = r' + 1 := ⟨r - 1, by omega⟩
      rw [Nat.add_sub_cancel] at c5 HH
      have e1 : ((r' + 1 : Nat) : Int) = (r' : Int) + 1 := by omega
      have e2 : IntKind.i64.wrap ((r' : Int) + 1 - 1) = (r' : Int) := by rw [IntKind.wrap_i64]; omega
      clear hT5 hc5 hg hE
      go_wp2
      exact ⟨⟨r', by omega, by omega, HH⟩, by show r' < r' + 1; omega⟩
   ·obtain rfl : m = L.length := by omega
    have hcv := hO.out.conv
    have e := HOK.out hdl
    obtain ⟨l1, hl1⟩ : ∃ l1, dmp L L.length = l1 := ⟨_, rfl⟩
    rw [hl1] at hcv e
    subst e
    clear hl1 hO HOK HLG hdl
    go_wp2
    go_ret2
    exact ⟨rfl, B2.out.trans (hB.out.mono (by omega))⟩
theorem par_lt (L : List Nd) (n : Nat) : ∀ m, -1 ≤ par L n m ∧ par L n m < m
 | 0 => by unfold par; omega
 | m + 1 => by
  have := par_lt L n m
  unfold par
  split <;> omega
theorem lnB_len (s : Shp) (x : Nd) (hx : Tame x) : (lnB s x).length ≤ 60100 := by
 have h1 : (pLb s x).length ≤ 10000 := by
  unfold pLb; split
  ·simp
  ·have := aw_len x.label.data.toList; rw [← Lib.size_eq] at this; have := hx.lb; omega
 have h2 : (pIt s x).length ≤ 10000 := by
  unfold pIt; split
  ·have := Lib.itoa_length_le x.int hx.i0 hx.i1; rw [List.length_cons]; omega
  ·simp
 have h3 : (pNm s x).length ≤ 10000 := by
  unfold pNm; split
  ·simp
  ·have := aw_len x.name.data.toList; rw [← Lib.size_eq] at this; have := hx.nm; omega
 have h4 : (pTy s x).length ≤ 10000 := by
  unfold pTy; split
  ·simp
  ·have := aw_len x.typ.data.toList; rw [← Lib.size_eq] at this; have := hx.ty; omega
 have h5 : (pOp s x).length ≤ 10000 := by
  unfold pOp; split
  ·have := aw_len (sgT.getD x.op.toNat ByteArray.empty).data.toList
   rw [← Lib.size_eq] at this
   have := sg_size (o := x.op.toNat) (by have := hx.o1; omega)
   omega
  ·simp
 have h6 : (pTx s x).length ≤ 10000 := by
  unfold pTx; split
  ·have h := aw_len (Lx.qt x.text.data.toList)
   have h2 := qb_size x.text hx.tx
   have h3 : (Lx.qt x.text.data.toList).length ≤ 8002 := by
    have := Lx.pcs_len x.text.data.toList
    rw [← Lib.size_eq] at this
    have := hx.tx
    unfold Lx.qt
    rw [List.length_cons, List.length_append]
    show (Lx.pcs x.text.data.toList).length + 1 + 1 ≤ _
    omega
   omega
  ·simp
 have h7 : (wordS x).length ≤ 100 := by
  unfold wordS
  rw [← Lib.size_eq]
  have : ∀ k : Fin 31, (wds.getD k.val ByteArray.empty).size ≤ 100 := by decide +kernel
  exact this ⟨x.kind.toNat, by have := hx.k1; omega⟩
 unfold lnB
 simp only [List.length_append]
 omega
theorem rdump_any (w : World) (p : Option Addr) (n cap : Nat) (L : List Nd) (h : Reads w p n L) (hk : RKw w) (ht : DTab w) (hr : Rng L) (hp : RngP L) (h7 : 15 ≤ w.heap.size) :
 Calls Tryz.prog 12 #[.agg #[.slice p n cap]] w fun e w' => e = .returned (.tuple #[.string ⟨(dumpS L).1.toArray⟩, .int .i64 (dumpS L).2]) ∧ Below w.heap.size w w' := by
 obtain ⟨w1, hw1⟩ : ∃ w1, w.alloc (.cells #[.slice p n cap] 24) = w1 := ⟨_, rfl⟩
 have B1 : Hid (Below w.heap.size w w1) := by rw [← hw1]; exact (Below.refl _ w).alloc (Nat.le_refl _) _
 have z1 : w.heap.size < w1.heap.size := by rw [← hw1]; simp
 have c1 : w1.cell? ⟨w.heap.size, 0, none⟩ = some (.slice p n cap) := by rw [← hw1]; exact cell_new _ _ _ _ _ rfl
 have RD : Hid (Reads w1 p n L) := h.next B1.out
 have H17 : Hid (Calls Tryz.prog 20 #[.agg #[.slice p n cap]] w1 fun e w' => e = .returned (.int .i64 (if treeS nameS typeS L then 0 else 30)) ∧ Below w1.heap.size w1 w') := rvalidT_any w1 p n cap L RD.out (hk.next B1.out) hr
 obtain ⟨hf, hlen, hrd⟩ := RD.out
 subst hlen
 have HT : Hid (DTab w1) := ht.on B1.out h7
 clear h hk ht
 cases htr : treeS nameS typeS L with
 | false =>
  rw [dump_no htr]
  rw [htr] at H17
  clear htr RD hrd hf hr hp
  go_enter Tryz.func12, Tryz.ntmps12
  go_wp2_with (first
   | (go_at_call 20; refine H17.out.mono ?_; rintro e w2 ⟨rfl, hb2⟩)
   | go_in)
  go_ret2
  exact ⟨rfl, B1.out.trans (hb2.mono B1.out.size)⟩
 | true =>
  rw [htr] at H17
  have hT := tr_of htr
  have HTR : Hid (Tr L) := hT
  have HG : Hid (∀ m, m < L.length → Good L m) := fun m hm => hT.good m hm
  have HTM : Hid (∀ m, m < L.length → Tame (nd L m) ∧ (shp (nd L m).kind).2 = true ∧ fieldsS nameS typeS (shp (nd L m).kind).1 (nd L m) = true) := fun m hm => by
   have hf := (tree_parts htr).2 m hm
   unfold fit at hf
   simp only [Bool.and_eq_true] at hf
   exact ⟨tame_of htr hr hp hm, hf.1.1, hf.1.2⟩
  have HOK : Hid ((dmp L L.length).length ≤ 4194304 → dumpS L = (dmp L L.length, 0)) := dump_ok htr
  have HLG : Hid (∀ m, m ≤ L.length → 4194304 < (dmp L m).length → dumpS L = ([], 2)) := fun m hm h => dump_long htr hm h
  have hLp := hT.pos
  obtain ⟨g, o, rfl, hl⟩ := hrd (fun e => by rw [e] at hLp; simp at hLp)
  have HL : Hid (Lay w1 g o L) := hl
  have hLb := hf.len
  obtain ⟨rr, hrr⟩ : ∃ rr, dumpS L = rr := ⟨_, rfl⟩
  rw [hrr] at HOK HLG ⊢
  clear htr hT hl RD hrd hf hr hp hrr hLp
  go_enter Tryz.func12, Tryz.ntmps12
  go_upto_region 3 with (first
   | (go_at_call 20; refine H17.out.mono ?_; rintro e w2 ⟨rfl, hb2⟩)
   | go_in)
  have B2 : Hid (Below w.heap.size w w2) := B1.out.trans (hb2.mono B1.out.size)
  have z2 : w.heap.size < w2.heap.size := Nat.lt_of_lt_of_le z1 hb2.size
  have HCW : Hid (∀ w', Below w2.heap.size w2 w' → w'.cell? ⟨w.heap.size, 0, none⟩ = some (.slice (some ⟨g, o, none⟩) L.length cap)) := fun w' hb => (hb.cell (p := ⟨w.heap.size, 0, none⟩) z2).trans ((hb2.cell (p := ⟨w.heap.size, 0, none⟩) z1).trans c1)
  have HLW : Hid (∀ w', Below w2.heap.size w2 w' → Lay w' g o L) := fun w' hb => (HL.out.next hb2).next hb
  have HTW : Hid (∀ w', Below w2.heap.size w2 w' → DTab w' ∧ w2.heap.size ≤ w'.heap.size ∧ 15 ≤ w'.heap.size) := fun w' hb => ⟨(HT.out.on hb2 (by omega)).on hb (by omega), hb.size, by have := hb.size; omega⟩
  clear HL HT H17 hb2 c1 hw1 B1
  go_wp2
  go_loopw [4, 5] (fun s4 s5 wr => ∃ m : Nat, m ≤ L.length ∧ s5 = .int .i64 (m : Int) ∧ (dmp L m).length ≤ 4194304 ∧ Hid (BRow wr w2.heap.size s4 (dmp L m)) ∧ Hid (Below w2.heap.size w2 wr)) (fun _ s5 _ => L.length - (intOf s5).toNat)
  case atStart => exact ⟨0, by omega, rfl, by simp [dmp], World.ownsRow_nil _ _ _ _, Below.refl _ _⟩
  case round =>
   obtain ⟨m, hm, rfl, hdl, hO, hB⟩ := hrel
   have d1 := HCW.out wr hB.out
   by_cases hlt : m < L.length
   ·have hml : m ≤ 4194304 := Nat.le_trans (dmp_ge L m) hdl
    have j0 : (0 : Int) ≤ (m : Int) := by omega
    have j1 : (m : Int) < (L.length : Int) := by omega
    have j3 : IntKind.i64.wrap ((m : Int) + 1) = (m : Int) + 1 := by rw [IntKind.wrap_i64]; omega
    obtain ⟨htm, hv1, hv2⟩ := HTM.out m hlt
    have HDN : Hid (dmp L (m + 1) = dmp L m ++ (blk (dep L m) ++ lnS (nd L m))) := rfl
    have HDP : Hid (dep L m = cnt L (par L m m)) := HTR.out.dep_par hlt
    have hdm := dep_le L m
    have hpl := par_lt L m m
    obtain ⟨q0, hq0⟩ : ∃ q0, par L m m = q0 := ⟨_, rfl⟩
    have H43 : Hid (Calls Tryz.prog 21 #[.slice (some ⟨g, o, none⟩) L.length cap, .int .i64 (m : Int)] wr fun e w' => e = .returned (.int .i64 q0) ∧ wr = w') := by
     rw [← hq0]; exact above_any wr g o cap L m hLb (HLW.out _ hB.out) hlt HG
    rw [hq0] at HDP hpl
    clear hq0
    have HV : Hid (Tame (nd L m) ∧ (shp (nd L m).kind).2 = true ∧ fieldsS nameS typeS (shp (nd L m).kind).1 (nd L m) = true) := ⟨htm, hv1, hv2⟩
    clear htm hv1 hv2
    go_wp2_with (first
     | (go_at_call 21; refine H43.out.mono ?_; rintro e w3 ⟨rfl, rfl⟩)
     | fail)
    clear H43
    go_loopw [4, 6] (fun s4 s6 wx => ∃ (b : Nat) (q : Int), s6 = .int .i64 q ∧ -1 ≤ q ∧ q < (m : Int) ∧ Hid (b + cnt L q = dep L m) ∧ b ≤ m ∧ Hid (BRow wx w2.heap.size s4 (dmp L m ++ blk b)) ∧ Hid (Below w2.heap.size w2 wx)) (fun _ s6 _ => (intOf s6 + 1).toNat)
    case atStart => exact ⟨0, q0, rfl, hpl.1, hpl.2, by show 0 + _ = _; rw [Nat.zero_add]; exact HDP.out.symm, by omega, by show BRow _ _ _ (_ ++ []); rw [List.append_nil]; exact hO.out, hB⟩
    case round =>
     clear hO hB HDP hpl d1
     obtain ⟨b, q, rfl, hq1, hq2, hbq, hbm, hO, hB⟩ := hrel
     have hBr := (HTW.out _ hB.out).2.1
     have hjl : (dmp L m ++ blk b).length ≤ 50331648 := by rw [List.length_append, blk_len]; omega
     have d1 := HCW.out wr hB.out
     by_cases hq0 : 0 ≤ q
     ·obtain ⟨k, rfl⟩ : ∃ k : Nat, q = (k : Int) := ⟨q.toNat, by omega⟩
      have hkL : k < L.length := by omega
      have hpk := par_lt L k k
      have HCN : Hid (b + 1 + cnt L (par L k k) = dep L m) := by
       have h1 := hbq.out
       have h2 := HTR.out.dep_par hkL
       show _ = _
       rw [← h2]
       unfold cnt at h1
       rw [if_neg (by omega), Int.toNat_natCast] at h1
       omega
      obtain ⟨q1, hq1'⟩ : ∃ q1, par L k k = q1 := ⟨_, rfl⟩
      have H43 : Hid (∀ w', Below w2.heap.size w2 w' → Calls Tryz.prog 21 #[.slice (some ⟨g, o, none⟩) L.length cap, .int .i64 (k : Int)] w' fun e w'' => e = .returned (.int .i64 q1) ∧ w' = w'') := fun w' hb => by
       rw [← hq1']; exact above_any w' g o cap L k hLb (HLW.out _ hb) hkL HG
      rw [hq1'] at hpk HCN
      clear hq1' hbq
      have hbm' : b + 1 ≤ m := by have := HCN.out; omega
      go_wp2_with (first
       | (at_builtin; refine wpList_appS (by rfl) _ _ (by rfl) w2.heap.size u4 (dmp L m ++ blk b) ⟨#[32, 32]⟩ (by rfl) (by rfl) hO (by show _ + 2 ≤ _; omega) hBr ?_; intro v3 w3 ho3 hk3; have e3 := HCW.out w3 (hB.out.trans hk3.out.1))
       | (go_at_call 21; refine (H43.out w3 (hB.out.trans hk3.out.1)).mono ?_; rintro e w4 ⟨rfl, rfl⟩)
       | fail)
      refine ⟨⟨b + 1, q1, rfl, hpk.1, by omega, HCN, hbm', ?_, hB.out.trans hk3.out.1⟩, by simp [intOf]; omega⟩
      rw [blk_succ, ← List.append_assoc]
      exact ho3
     ·obtain rfl : q = -1 := by omega
      have hbd : b = dep L m := by have := hbq.out; unfold cnt at this; rw [if_pos (by omega)] at this; omega
      have HDN2 : Hid (dmp L (m + 1) = (dmp L m ++ blk b) ++ lnS (nd L m)) := by show _ = _; rw [HDN.out, hbd, List.append_assoc]
      clear hbq hbd HDN
      have dA := (HLW.out _ hB.out).c m hlt
      have HDA : Hid (∀ w', Below w2.heap.size w2 w' → ∀ (j : Nat) (v : Value), (ndV (nd L m))[j]? = some v → w'.cell? ⟨g, o + m * 9 + j, none⟩ = some v) := fun w' hb j v hv => (HLW.out _ hb).c m hlt j v hv
      obtain ⟨y, hy⟩ : ∃ y, nd L m = y := ⟨_, rfl⟩
      rw [hy] at HDA HV HDN2
      clear hy dA
      have hp0 := HV.out.1.p0
      have hp1 := HV.out.1.p1
      obtain ⟨wb, hwb⟩ : ∃ wb : ByteArray, wb = ⟨(lnB (shp y.kind).1 y).toArray⟩ := ⟨_, rfl⟩
      obtain ⟨nb, hnb⟩ : ∃ nb : ByteArray, nb = ⟨(Lib.itoa y.pos).toArray⟩ := ⟨_, rfl⟩
      have hws : wb.size ≤ 60100 := by rw [hwb]; show (lnB (shp y.kind).1 y).toArray.size ≤ _; rw [List.size_toArray]; exact lnB_len _ _ HV.out.1
      have hns : nb.size ≤ 100 := by rw [hnb]; exact nb_size y.pos hp0 hp1
      have H65 : Hid (∀ w', Below w2.heap.size w2 w' → Calls Tryz.prog 22 #[.agg (ndV y)] w' fun e w'' => e = .returned (.string wb) ∧ Below w'.heap.size w' w'') := fun w' hb => by
       rw [hwb]; exact words_any w' y HV.out.1 HV.out.2.1 HV.out.2.2 (HTW.out _ hb).1.ten (HTW.out _ hb).2.2
      have H66 : Hid (∀ w', Below w2.heap.size w2 w' → Calls Tryz.prog 23 #[.int .i64 y.pos] w' fun e w'' => e = .returned (.string nb) ∧ Below w'.heap.size w' w'') := fun w' hb => by
       rw [hnb]; exact itoa_any y.pos w' hp0 hp1 (HTW.out _ hb).1.ten
      have HEQ : Hid (dmp L (m + 1) = (dmp L m ++ blk b) ++ (((wb ++ (⟨#[32, 64]⟩ : ByteArray)) ++ nb) ++ (⟨#[10]⟩ : ByteArray)).data.toList) := by
       show _ = _
       rw [HDN2.out, baD, baD, baD, hwb, hnb]
       rfl
      clear hwb hnb HDN2 HV hp0 hp1
      obtain ⟨l0, hl0⟩ : ∃ l0, dmp L m ++ blk b = l0 := ⟨_, rfl⟩
      rw [hl0] at hO HEQ hjl
      clear hl0
      have hs2 : (wb ++ (⟨#[32, 64]⟩ : ByteArray)).size = wb.size + 2 := by rw [ByteArray.size_append]; rfl
      have hs3 : ((wb ++ (⟨#[32, 64]⟩ : ByteArray)) ++ nb).size = wb.size + 2 + nb.size := by rw [ByteArray.size_append, hs2]
      have hs4 : (((wb ++ (⟨#[32, 64]⟩ : ByteArray)) ++ nb) ++ (⟨#[10]⟩ : ByteArray)).size = wb.size + 2 + nb.size + 1 := by rw [ByteArray.size_append, hs3]; rfl
      have r1 := cat_eq wb (⟨#[32, 64]⟩ : ByteArray) (by show _ + 2 ≤ _; omega)
      have r2 := cat_eq (wb ++ (⟨#[32, 64]⟩ : ByteArray)) nb (by rw [hs2]; omega)
      have r3 := cat_eq ((wb ++ (⟨#[32, 64]⟩ : ByteArray)) ++ nb) (⟨#[10]⟩ : ByteArray) (by rw [hs3]; show _ + 1 ≤ _; omega)
      have HS4 : Hid ((((wb ++ (⟨#[32, 64]⟩ : ByteArray)) ++ nb) ++ (⟨#[10]⟩ : ByteArray)).size ≤ 70000) := by show _ ≤ _; rw [hs4]; omega
      clear hs2 hs3 hs4
      obtain ⟨kd, ps, nm, lb, ty, op, it, tx, zz⟩ := y
      simp only at H66
      have SV : Hid (∀ w' : World, Below w2.heap.size w2 w' → w'.cell? ⟨w.heap.size, 0, none⟩ = some (.slice (some ⟨g, o, none⟩) L.length cap) ∧ w'.cell? ⟨g, o + m * 9, none⟩ = some (.int .i64 kd) ∧ w'.cell? ⟨g, o + m * 9 + 1, none⟩ = some (.int .i64 ps) ∧ w'.cell? ⟨g, o + m * 9 + 2, none⟩ = some (.string nm) ∧ w'.cell? ⟨g, o + m * 9 + 3, none⟩ = some (.string lb) ∧ w'.cell? ⟨g, o + m * 9 + 4, none⟩ = some (.string ty) ∧ w'.cell? ⟨g, o + m * 9 + 5, none⟩ = some (.int .i64 op) ∧ w'.cell? ⟨g, o + m * 9 + 6, none⟩ = some (.int .i64 it) ∧ w'.cell? ⟨g, o + m * 9 + 7, none⟩ = some (.string tx) ∧ w'.cell? ⟨g, o + m * 9 + 8, none⟩ = some (.int .i64 zz) ∧ Below w2.heap.size w2 w') := fun w' hb =>
       ⟨HCW.out w' hb, HDA.out w' hb 0 _ rfl, HDA.out w' hb 1 _ rfl, HDA.out w' hb 2 _ rfl, HDA.out w' hb 3 _ rfl, HDA.out w' hb 4 _ rfl, HDA.out w' hb 5 _ rfl, HDA.out w' hb 6 _ rfl, HDA.out w' hb 7 _ rfl, HDA.out w' hb 8 _ rfl, hb⟩
      unfold ndV at H65
      have hcd : Below w2.heap.size w2 wr.drew := hB.out.drew
      have hoD : Hid (BRow wr.drew w2.heap.size u4 l0) := hO.out
      go_upto_region 11 with fail
      clear d1
      go_region_held3 (fun w' => w'.cell? ⟨w.heap.size, 0, none⟩ = some (.slice (some ⟨g, o, none⟩) L.length cap) ∧ w'.cell? ⟨g, o + m * 9, none⟩ = some (.int .i64 kd) ∧ w'.cell? ⟨g, o + m * 9 + 1, none⟩ = some (.int .i64 ps) ∧ w'.cell? ⟨g, o + m * 9 + 2, none⟩ = some (.string nm) ∧ w'.cell? ⟨g, o + m * 9 + 3, none⟩ = some (.string lb) ∧ w'.cell? ⟨g, o + m * 9 + 4, none⟩ = some (.string ty) ∧ w'.cell? ⟨g, o + m * 9 + 5, none⟩ = some (.int .i64 op) ∧ w'.cell? ⟨g, o + m * 9 + 6, none⟩ = some (.int .i64 it) ∧ w'.cell? ⟨g, o + m * 9 + 7, none⟩ = some (.string tx) ∧ w'.cell? ⟨g, o + m * 9 + 8, none⟩ = some (.int .i64 zz) ∧ Below w2.heap.size w2 w') (exact SV.out _ (by assumption))
       (first
       | (go_at_call 22; refine (H65.out _ hcd).mono ?_; rintro e w4 ⟨rfl, hb4⟩; replace hcd := hcd.trans (hb4.mono (HTW.out _ hcd).2.1); replace hoD : Hid (BRow w4 w2.heap.size u4 l0) := hoD.out.stays hb4)
       | (go_at_call 23; refine (H66.out _ hcd).mono ?_; rintro e w4 ⟨rfl, hb4⟩; replace hcd := hcd.trans (hb4.mono (HTW.out _ hcd).2.1); replace hoD : Hid (BRow w4 w2.heap.size u4 l0) := hoD.out.stays hb4)
       | (refine step_appS (by rfl) _ _ (by rfl) w2.heap.size u4 l0 (((wb ++ (⟨#[32, 64]⟩ : ByteArray)) ++ nb) ++ (⟨#[10]⟩ : ByteArray)) (by rfl) (by rfl) hoD (by have := HS4.out; omega) (HTW.out _ hcd).2.1 ?_; intro v5 w5 ho5 hk5; replace hcd := hcd.trans hk5.out.1))
      all_goals
       have ho6 := ho5.out
       rw [← HEQ.out] at ho6
       have HL6 : Hid (BRow w5 w2.heap.size v5 (dmp L (m + 1))) := ho6
       obtain ⟨ov5, cp5, hv5⟩ := ho6.form
       have HLG1 : Hid (4194304 < (dmp L (m + 1)).length → rr = ([], 2)) := HLG.out (m + 1) (by omega)
       obtain ⟨l1, hl1⟩ : ∃ l1, dmp L (m + 1) = l1 := ⟨_, rfl⟩
       have HL1 : Hid (dmp L (m + 1) = l1) := hl1
       rw [hl1] at hv5 HLG1 HL6
       subst hv5
       clear hl1 ho6 ho5 HEQ r1 r2 r3
       by_cases hbig : 4194304 < l1.length
       ·have hb1 : (4194304 : Int) < (l1.length : Int) := by omega
        obtain rfl := HLG1.out hbig
        go_wp2
        go_ret2
        exact ⟨rfl, B2.out.trans (hcd.mono (by omega))⟩
       ·have hb1 : ¬ (4194304 : Int) < (l1.length : Int) := by omega
        go_wp2
        exact ⟨⟨m + 1, by omega, by go_num, by rw [HL1.out]; omega, by rw [HL1.out]; exact HL6, hcd⟩, by simp [intOf]; omega⟩
   ·obtain rfl : m = L.length := by omega
    have hcv := hO.out.conv
    have e := HOK.out hdl
    obtain ⟨l1, hl1⟩ : ∃ l1, dmp L L.length = l1 := ⟨_, rfl⟩
    rw [hl1] at hcv e
    subst e
    clear hl1 hO HOK HLG hdl
    go_wp2
    go_ret2
    exact ⟨rfl, B2.out.trans (hB.out.mono (by omega))⟩
end Go.Proofs.YtekgnogjfggnmaaGreatDoor
