import Derived.Deep.DeepCutAuto
import Derived.Deep.CutBlock
import Derived.Test.YtahdkffijlfmnaaGreatDoorT25
import Derived.Test.YtahdkffijlfmnaaGreatDoorT17
namespace Go.Proofs.YtahdkffijlfmnaaGreatDoor
open Go.RowKit
open Hp (V vc vcs)
structure CdR (w : World) (iq eq tq : Option Addr) (ia ea ta : Nat) (Es : List Em) (c : Cd) : Prop where
  en : Es.map (·.1) = c.ens
  ir : RdS w iq c.ins.length ia (c.ins.flatMap ic)
  er : RdS w eq c.ens.length ea (Es.flatMap ec)
  tr : RdS w tq c.txs.length ta (tv c.txs)
  sr : ∀ x ∈ Es, RdS w x.2.1 x.1.sorts.length x.2.2 (sv x.1.sorts)
theorem ic_one (l : List In) : ∀ u ∈ l.flatMap ic, u.oneCell' = true := fun u hu => by
  obtain ⟨x, -, hx⟩ := List.mem_flatMap.1 hu
  unfold ic at hx
  simp only [List.mem_cons, List.not_mem_nil, or_false] at hx
  rcases hx with rfl | rfl | rfl <;> rfl
theorem ec_one (l : List Em) : ∀ u ∈ l.flatMap ec, u.oneCell' = true := fun u hu => by
  obtain ⟨x, -, hx⟩ := List.mem_flatMap.1 hu
  unfold ec at hx
  simp only [List.mem_cons, List.not_mem_nil, or_false] at hx
  rcases hx with rfl | rfl | rfl | rfl | rfl <;> rfl
theorem tv_one (l : List ByteArray) : ∀ u ∈ tv l, u.oneCell' = true := fun u hu => by
  obtain ⟨x, -, rfl⟩ := List.mem_map.1 hu
  rfl
theorem sv_one (l : List Int) : ∀ u ∈ sv l, u.oneCell' = true := fun u hu => by
  obtain ⟨x, -, rfl⟩ := List.mem_map.1 hu
  rfl
theorem callInstr (a : Value) (w : World) : (callFunc 45 #[a]).run Tryz.prog w = .ok (.enter 45 #[a]) w := by kernel_rfl
theorem callEntry (a : Value) (w : World) : (callFunc 46 #[a]).run Tryz.prog w = .ok (.enter 46 #[a]) w := by kernel_rfl
theorem callString (a : Value) (w : World) : (callFunc 47 #[a]).run Tryz.prog w = .ok (.enter 47 #[a]) w := by kernel_rfl
theorem ic_len (l : List In) : (l.flatMap ic).length = l.length * 3 := flat_lenF ic 3 (fun _ => rfl) l
theorem ec_len (l : List Em) : (l.flatMap ec).length = l.length * 5 := flat_lenF ec 5 (fun _ => rfl) l
theorem tv_len (l : List ByteArray) : (tv l).length = l.length := List.length_map ..
structure CopI (w W : World) (B : Nat) (q5 : Option Addr) (k5 : Nat) (q6 : Option Addr) (k6 : Nat) (q7 : Option Addr) (k7 : Nat) (c : Cd) (M : List Em) (ni ne nt : Nat) : Prop where
  bl : Below B w W
  cd : Full W B 26 [.slice q5 ni k5, .slice q6 ne k6, .slice q7 nt k7, .int .i64 c.main]
  rs : Full W (B + 1) 26 [.slice none 0 0, .slice none 0 0, .slice none 0 0, .int .i64 0]
  i : W.ownsRow B 86 3 (.slice q5 ni k5) ni (c.ins.flatMap ic)
  e : W.ownsRow B 71 5 (.slice q6 ne k6) ne (M.flatMap ec)
  t : W.ownsRow B 9 1 (.slice q7 nt k7) nt (tv c.txs)
theorem CopI.next {w W W' : World} {B : Nat} {q5 q6 q7 : Option Addr} {k5 k6 k7 : Nat} {c : Cd} {M : List Em} {ni ne nt : Nat} (h : CopI w W B q5 k5 q6 k6 q7 k7 c M ni ne nt) (hB : B ≤ W.heap.size) (k : Below W.heap.size W W') : CopI w W' B q5 k5 q6 k6 q7 k7 c M ni ne nt := ⟨h.bl.trans (k.mono hB), h.cd.next k, h.rs.next k, own_next h.i k, own_next h.e k, own_next h.t k⟩
theorem em_set {M : List Em} {i : Nat} {x x' : Em} (hi : M[i]? = some x) (j : Nat) (hj : j < 5) (v : Value) (e : ec x' = (ec x).set j v) : (M.flatMap ec).set (i * 5 + j) v = (M.set i x').flatMap ec := by
  obtain ⟨hil, rfl⟩ := List.getElem?_eq_some_iff.1 hi
  have hl := flat_lenF ec 5 (fun _ => rfl) M
  apply List.ext_getElem?
  intro k
  rw [flat_set ec 5 (fun _ => rfl) M i hil x' k, List.getElem?_set, e, List.getElem?_set]
  have hf : (ec M[i]).length = 5 := rfl
  by_cases h1 : i * 5 + j = k
  · rw [if_pos h1, if_pos (by omega), if_pos (by omega), if_pos (by omega), if_pos (by rw [hf]; omega)]
  · rw [if_neg h1]
    by_cases h2 : i * 5 ≤ k ∧ k < i * 5 + 5
    · rw [if_pos h2, if_neg (by omega)]
      have := flat_at ec 5 (fun _ => rfl) M i (k - i * 5) hil (by omega)
      rwa [show i * 5 + (k - i * 5) = k by omega] at this
    · rw [if_neg h2]
structure CopE (w W : World) (B : Nat) (q5 : Option Addr) (k5 : Nat) (q6 : Option Addr) (k6 : Nat) (q7 : Option Addr) (k7 : Nat) (c : Cd) (Es : List Em) (ni ne nt j : Nat) : Prop where
  ex : ∃ M, CopI w W B q5 k5 q6 k6 q7 k7 c M ni ne nt ∧ M.length = ne ∧ M.map (·.1) = Es.map (·.1) ∧ (∀ k, j ≤ k → M[k]? = Es[k]?) ∧ ∀ k x, k < j → M[k]? = some x → W.ownsRow B 69 1 (.slice x.2.1 x.1.sorts.length x.2.2) x.1.sorts.length (sv x.1.sorts)
  sz : B + 2 ≤ W.heap.size
theorem CopE.next {w W W' : World} {B : Nat} {q5 q6 q7 : Option Addr} {k5 k6 k7 : Nat} {c : Cd} {Es : List Em} {ni ne nt j : Nat} (h : CopE w W B q5 k5 q6 k6 q7 k7 c Es ni ne nt j) (k : Below W.heap.size W W') : CopE w W' B q5 k5 q6 k6 q7 k7 c Es ni ne nt j := by
  obtain ⟨M, h1, h2, h3, h4, h5⟩ := h.ex
  exact ⟨⟨M, h1.next (by have := h.sz; omega) k, h2, h3, h4, fun i x hi hx => own_next (h5 i x hi hx) k⟩, Nat.le_trans h.sz k.size⟩
theorem CopE.put {w W : World} {B : Nat} {q5 q6 q7 : Option Addr} {k5 k6 k7 : Nat} {c : Cd} {Es : List Em} {ni ne nt j : Nat} (h : CopE w W B q5 k5 q6 k6 q7 k7 c Es ni ne nt j) {x : Em} (hx : Es[j]? = some x) (hj : j < ne) {q : Option Addr} {cap : Nat} (ho : W.ownsRow B 69 1 (.slice q x.1.sorts.length cap) x.1.sorts.length (sv x.1.sorts)) :
    ∃ ge, q6 = some ⟨ge, 0, none⟩ ∧ CopE w (W.setCell ⟨ge, j * 5 + 3, none⟩ (.slice q x.1.sorts.length cap)) B q5 k5 q6 k6 q7 k7 c Es ni ne nt (j + 1) := by
  obtain ⟨M, h1, h2, h3, h4, h5⟩ := h.ex
  obtain ⟨q', c', e', -, hq⟩ := own_slice h1.e
  obtain ⟨ge, rfl, -⟩ := hq (by omega)
  cases e'
  have hge : B ≤ ge := own_ge h1.e ge rfl
  have hblk := own_blk h1.e ge rfl
  refine ⟨ge, rfl, ⟨⟨M.set j (x.1, q, cap), ⟨?_, ?_, ?_, ?_, ?_, ?_⟩, by rw [List.length_set]; exact h2, ?_, fun k hk => ?_, fun k y hk hy => ?_⟩, by rw [set_size]; exact h.sz⟩⟩
  · exact h1.bl.setCell (p := ⟨ge, j * 5 + 3, none⟩) hge _
  · exact h1.cd.other1 (show B ≠ ge from fun e => hblk.ne (g' := B) ⟨_, h1.cd, Nat.zero_le _⟩ (by decide) e.symm)
  · exact h1.rs.other1 (show B + 1 ≠ ge from fun e => hblk.ne (g' := B + 1) ⟨_, h1.rs, Nat.zero_le _⟩ (by decide) e.symm)
  · exact own_same h1.i fun b hb => set_heap (a := ⟨ge, j * 5 + 3, none⟩) fun e => own_ne h1.i hblk (by decide) (by have e : b = ge := e; rw [← e]; exact hb)
  · have := own_set1 h1.e (j * 5 + 3) (by omega) (.slice q x.1.sorts.length cap)
    rwa [em_set (x' := (x.1, q, cap)) ((h4 j (Nat.le_refl _)).trans hx) 3 (by decide) _ rfl] at this
  · exact own_same h1.t fun b hb => set_heap (a := ⟨ge, j * 5 + 3, none⟩) fun e => own_ne h1.t hblk (by decide) (by have e : b = ge := e; rw [← e]; exact hb)
  · rw [List.map_set, ← h3]
    apply List.ext_getElem?
    intro k
    rw [List.getElem?_set]
    split
    · rename_i e
      subst e
      rw [if_pos (by rw [List.length_map]; omega), List.getElem?_map, h4 j (Nat.le_refl _), hx]
      rfl
    · rfl
  · rw [List.getElem?_set_ne (by omega)]
    exact h4 k (by omega)
  · have keep : ∀ {v : Value} {n : Nat} {xs : List Value}, W.ownsRow B 69 1 v n xs → (W.setCell ⟨ge, j * 5 + 3, none⟩ (.slice q x.1.sorts.length cap)).ownsRow B 69 1 v n xs := fun ho => own_same ho fun b hb => set_heap (a := ⟨ge, j * 5 + 3, none⟩) fun e => own_ne ho hblk (by decide) (by have e : b = ge := e; rw [← e]; exact hb)
    rw [List.getElem?_set] at hy
    split at hy
    · rw [if_pos (by omega)] at hy
      cases hy
      exact keep ho
    · exact keep (h5 k y (by omega) hy)
structure CdN (W : World) (B : Nat) (iq eq tq : Option Addr) (M : List Em) (c : Cd) : Prop where
  en : M.map (·.1) = c.ens
  ir : RowQ W (fun b => B ≤ b) iq c.ins.length (c.ins.flatMap ic)
  er : RowQ W (fun b => B ≤ b) eq c.ens.length (M.flatMap ec)
  tr : RowQ W (fun b => B ≤ b) tq c.txs.length (tv c.txs)
  sr : ∀ x ∈ M, RowQ W (fun b => B ≤ b) x.2.1 x.1.sorts.length (sv x.1.sorts)
theorem rowQ_own {W : World} {B : Nat} {e : TypeId} {sz n cap : Nat} {q : Option Addr} {xs : List Value} (h : W.ownsRow B e sz (.slice q n cap) n xs) : RowQ W (fun b => B ≤ b) q n xs := fun hn => by
  obtain ⟨q', c', e', -, hq⟩ := own_slice h
  cases e'
  obtain ⟨g, rfl, r⟩ := hq hn
  exact ⟨g, 0, rfl, own_ge h g rfl, r⟩
theorem CopE.cdN {w W W' : World} {B : Nat} {q5 q6 q7 : Option Addr} {k5 k6 k7 : Nat} {c : Cd} {Es : List Em} (h : CopE w W B q5 k5 q6 k6 q7 k7 c Es c.ins.length c.ens.length c.txs.length c.ens.length) (he : Es.map (·.1) = c.ens) (hk : ∀ b, b ≠ B + 1 → W'.heap[b]? = W.heap[b]?) : ∃ M, CdN W' B q5 q6 q7 M c := by
  obtain ⟨M, h1, h2, h3, h4, h5⟩ := h.ex
  have hr : Blk W (B + 1) 26 0 := ⟨_, h1.rs, Nat.zero_le _⟩
  have kp : ∀ {e : TypeId} {sz : Nat} {v : Value} {n : Nat} {xs : List Value}, W.ownsRow B e sz v n xs → 26 ≠ e → W'.ownsRow B e sz v n xs := fun ho hne => own_same ho fun b hb => hk b fun e => own_ne ho hr hne (by rw [← e]; exact hb)
  refine ⟨M, h3.trans he, rowQ_own (kp h1.i (by decide)), rowQ_own (kp h1.e (by decide)), rowQ_own (kp h1.t (by decide)), fun x hx => ?_⟩
  obtain ⟨k, hx2⟩ := List.mem_iff_getElem?.1 hx
  exact rowQ_own (kp (h5 k x (by have := (List.getElem?_eq_some_iff.1 hx2).1; omega) hx2) (by decide))
theorem CdN.same {W W' : World} {B : Nat} {iq eq tq : Option Addr} {M : List Em} {c : Cd} (h : CdN W B iq eq tq M c) (hk : ∀ b o v, W.cell? ⟨b, o, none⟩ = some v → W'.cell? ⟨b, o, none⟩ = some v) : CdN W' B iq eq tq M c := by
  have kr : ∀ {q : Option Addr} {n : Nat} {xs : List Value}, RowQ W (fun b => B ≤ b) q n xs → RowQ W' (fun b => B ≤ b) q n xs := fun hr hn => by
    obtain ⟨g, o, r1, r2, r3⟩ := hr hn
    exact ⟨g, o, r1, r2, fun j v hv => hk g (o + j) v (r3 j v hv)⟩
  exact ⟨h.en, kr h.ir, kr h.er, kr h.tr, fun x hx => kr (h.sr x hx)⟩
end Go.Proofs.YtahdkffijlfmnaaGreatDoor

namespace Go.Proofs.YtahdkffijlfmnaaGreatDoor
open Go.RowKit
open Hp (V vc vcs)
theorem ret_cc {w : World} {B : Nat} {t : TypeId} {a b c d : Value} {tm : Array Value} (h : Full w B t [a, b, c, d]) (h2 : tm[2]?.getD undef = .pointer (some ⟨B, 0, none⟩)) :
    (results Tryz.f23 tm).run Tryz.prog w = .ok (.agg #[a, b, c, d]) w := by
  simp [results, Tryz.results23, go_sem, h2, (h.cell 0 a rfl).1, (h.cell 1 b rfl).1, (h.cell 2 c rfl).1, (h.cell 3 d rfl).1]
set_option maxRecDepth 100000 in
set_option maxHeartbeats 4000000 in
theorem copiedCode_any {w : World} {iq eq tq : Option Addr} {ia ea ta : Nat} {Es : List Em} {c : Cd} (h : CdR w iq eq tq ia ea ta Es c) (hc : CodeOk c) :
    Calls Tryz.prog 23 #[.agg #[.slice iq c.ins.length ia, .slice eq c.ens.length ea, .slice tq c.txs.length ta, .int .i64 c.main]] w fun z w' => ∃ q5 k5 q6 k6 q7 k7, z = .returned (.agg #[.slice q5 c.ins.length k5, .slice q6 c.ens.length k6, .slice q7 c.txs.length k7, .int .i64 c.main]) ∧ Hid ((∃ M, CdN w' w.heap.size q5 q6 q7 M c) ∧ Below w.heap.size w w') := by
  have hEl : Es.length = c.ens.length := by rw [← h.en, List.length_map]
  have hil := hc.il
  have hel := hc.el
  have htl := hc.tl
  have bX : Below w.heap.size w ((w.alloc (.cells #[.slice iq c.ins.length ia, .slice eq c.ens.length ea, .slice tq c.txs.length ta, .int .i64 c.main] 26)).alloc (.cells #[.slice none 0 0, .slice none 0 0, .slice none 0 0, .int .i64 0] 26)) := ((Below.refl _ w).alloc (Nat.le_refl _) _).alloc (by simp) _
  have fX : Full ((w.alloc (.cells #[.slice iq c.ins.length ia, .slice eq c.ens.length ea, .slice tq c.txs.length ta, .int .i64 c.main] 26)).alloc (.cells #[.slice none 0 0, .slice none 0 0, .slice none 0 0, .int .i64 0] 26)) w.heap.size 26 [.slice iq c.ins.length ia, .slice eq c.ens.length ea, .slice tq c.txs.length ta, .int .i64 c.main] := (Full.new w #[.slice iq c.ins.length ia, .slice eq c.ens.length ea, .slice tq c.txs.length ta, .int .i64 c.main] 26).next ((Below.refl _ _).alloc (Nat.le_refl _) _)
  have fR : Full ((w.alloc (.cells #[.slice iq c.ins.length ia, .slice eq c.ens.length ea, .slice tq c.txs.length ta, .int .i64 c.main] 26)).alloc (.cells #[.slice none 0 0, .slice none 0 0, .slice none 0 0, .int .i64 0] 26)) (w.heap.size + 1) 26 [.slice none 0 0, .slice none 0 0, .slice none 0 0, .int .i64 0] := by
    have := Full.new (w.alloc (.cells #[.slice iq c.ins.length ia, .slice eq c.ens.length ea, .slice tq c.txs.length ta, .int .i64 c.main] 26)) #[.slice none 0 0, .slice none 0 0, .slice none 0 0, .int .i64 0] 26
    rw [World.size_alloc] at this
    exact this
  obtain ⟨X, hX⟩ : ∃ X, (w.alloc (.cells #[.slice iq c.ins.length ia, .slice eq c.ens.length ea, .slice tq c.txs.length ta, .int .i64 c.main] 26)).alloc (.cells #[.slice none 0 0, .slice none 0 0, .slice none 0 0, .int .i64 0] 26) = X := ⟨_, rfl⟩
  rw [hX] at bX fX fR
  obtain ⟨ni, hni⟩ : ∃ ni, c.ins.length = ni := ⟨_, rfl⟩
  obtain ⟨ne, hne⟩ : ∃ ne, c.ens.length = ne := ⟨_, rfl⟩
  obtain ⟨nt, hnt⟩ : ∃ nt, c.txs.length = nt := ⟨_, rfl⟩
  have hir := h.ir
  have her := h.er
  have htr := h.tr
  rw [hni] at fX hX hil hir ⊢
  rw [hne] at fX hX hel her hEl ⊢
  rw [hnt] at fX hX htl htr ⊢
  have HC : Hid (∀ W, Below X.heap.size X W → (W.cell? ⟨w.heap.size, 0, none⟩ = some (.slice iq ni ia) ∧ W.cell? ⟨w.heap.size, 1, none⟩ = some (.slice eq ne ea) ∧ W.cell? ⟨w.heap.size, 2, none⟩ = some (.slice tq nt ta)) ∧ W.frozen? ⟨w.heap.size, 0, none⟩ = false ∧ W.frozen? ⟨w.heap.size, 1, none⟩ = false ∧ W.frozen? ⟨w.heap.size, 2, none⟩ = false) := fun W b => by
    have f := fX.next b
    exact ⟨⟨(f.cell 0 _ rfl).1, (f.cell 1 _ rfl).1, (f.cell 2 _ rfl).1⟩, (f.cell 0 _ rfl).2, (f.cell 1 _ rfl).2, (f.cell 2 _ rfl).2⟩
  have HD : Hid (∀ W, Below X.heap.size X W → (Calls Tryz.prog 45 #[.slice iq ni ia] W fun z w' => ∃ v', z = .returned v' ∧ Hid (w'.ownsRow W.heap.size 86 3 v' ni (c.ins.flatMap ic)) ∧ Below W.heap.size W w') ∧ (Calls Tryz.prog 46 #[.slice eq ne ea] W fun z w' => ∃ v', z = .returned v' ∧ Hid (w'.ownsRow W.heap.size 71 5 v' ne (Es.flatMap ec)) ∧ Below W.heap.size W w') ∧ (Calls Tryz.prog 47 #[.slice tq nt ta] W fun z w' => ∃ v', z = .returned v' ∧ Hid (w'.ownsRow W.heap.size 9 1 v' nt (tv c.txs)) ∧ Below W.heap.size W w')) := fun W b => by
    have bw := below2 bX b
    have li : (c.ins.flatMap ic).length = ni * 3 := by rw [ic_len, hni]
    have le : (Es.flatMap ec).length = ne * 5 := by rw [ec_len, hEl]
    have lt : (tv c.txs).length = nt * 1 := by rw [tv_len, hnt]; omega
    exact ⟨cloneInstr_any (hir.next (by omega) bw) li (ic_one _) (by omega), cloneEntry_any (her.next (by omega) bw) le (ec_one _) (by omega), cloneString_any (htr.next (by omega) bw) lt (tv_one _) (by omega)⟩
  have b0 : Below X.heap.size X X.drew := (Below.refl _ X).drew
  obtain ⟨⟨c0, c1, c2⟩, -⟩ := HC.out X.drew b0
  have d0 := (HD.out X.drew b0).1
  have HB0 : Hid (Below X.heap.size X X.drew) := b0
  have HFI : Hid (∀ w5 w6 w7 q5 k5 q6 k6 q7 k7, Hid (w5.ownsRow X.drew.heap.size 86 3 (.slice q5 ni k5) ni (c.ins.flatMap ic)) → Hid (Below X.drew.heap.size X.drew w5) → Hid (w6.ownsRow w5.heap.size 71 5 (.slice q6 ne k6) ne (Es.flatMap ec)) → Hid (Below w5.heap.size w5 w6) → Hid (w7.ownsRow w6.heap.size 9 1 (.slice q7 nt k7) nt (tv c.txs)) → Hid (Below w6.heap.size w6 w7) → CopI w (((w7.setCell ⟨w.heap.size, 0, none⟩ (.slice q5 ni k5)).setCell ⟨w.heap.size, 1, none⟩ (.slice q6 ne k6)).setCell ⟨w.heap.size, 2, none⟩ (.slice q7 nt k7)) w.heap.size q5 k5 q6 k6 q7 k7 c Es ni ne nt) := fun w5 w6 w7 q5 k5 q6 k6 q7 k7 H5 B5 H6 B6 H7 B7 => by
    have hsz : X.heap.size = w.heap.size + 2 := by rw [← hX]; simp
    have bx7 : Below X.heap.size X w7 := below2 (below2 (below2 HB0.out B5.out) B6.out) B7.out
    have hX5 : X.heap.size ≤ w5.heap.size := B5.out.size
    have hX6 : X.heap.size ≤ w6.heap.size := Nat.le_trans hX5 B6.out.size
    have f7 := fX.next bx7
    have g7 := fR.next bx7
    have hno : ∀ {v : Value} {D : Nat} {e : TypeId} {sz n : Nat} {xs : List Value} {W : World}, W.ownsRow D e sz v n xs → X.heap.size ≤ D → ∀ b, v.ownBlock = some b → b ≠ w.heap.size := fun ho hD b hb e => by
      have := own_ge ho b hb
      omega
    have keep : ∀ b, b ≠ w.heap.size → (((w7.setCell ⟨w.heap.size, 0, none⟩ (.slice q5 ni k5)).setCell ⟨w.heap.size, 1, none⟩ (.slice q6 ne k6)).setCell ⟨w.heap.size, 2, none⟩ (.slice q7 nt k7)).heap[b]? = w7.heap[b]? := fun b hb => ((set_heap (a := ⟨w.heap.size, 2, none⟩) hb).trans (set_heap (a := ⟨w.heap.size, 1, none⟩) hb)).trans (set_heap (a := ⟨w.heap.size, 0, none⟩) hb)
    have i7 := own_next (own_next H5.out B6.out) B7.out
    have e7 := own_next H6.out B7.out
    refine ⟨?_, ?_, ((g7.other1 (show w.heap.size + 1 ≠ w.heap.size by omega)).other1 (show w.heap.size + 1 ≠ w.heap.size by omega)).other1 (show w.heap.size + 1 ≠ w.heap.size by omega), ?_, ?_, ?_⟩
    · exact (((below2 bX bx7).setCell (p := ⟨w.heap.size, 0, none⟩) (Nat.le_refl _) _).setCell (p := ⟨w.heap.size, 1, none⟩) (Nat.le_refl _) _).setCell (p := ⟨w.heap.size, 2, none⟩) (Nat.le_refl _) _
    · exact Full.put (g := w.heap.size) (t := 26) [.slice q5 ni k5, .slice q6 ne k6, .slice q7 nt k7] (a := []) (b := [.slice iq ni ia, .slice eq ne ea, .slice tq nt ta]) (d := [.int .i64 c.main]) f7 rfl
    · exact own_down (own_same i7 fun b hb => keep b (hno i7 (Nat.le_refl _) b hb)) (by show w.heap.size ≤ X.heap.size; omega)
    · exact own_down (own_same e7 fun b hb => keep b (hno e7 hX5 b hb)) (by omega)
    · exact own_down (own_same H7.out fun b hb => keep b (hno H7.out hX6 b hb)) (by omega)
  clear b0
  go_enter Tryz.func23, Tryz.ntmps23
  go_upto_region 1 with fail
  go_cut [1] (fun u wx => u = .pointer (some ⟨w.heap.size, 0, none⟩) ∧ ∃ q5 k5 q6 k6 q7 k7, Hid (CopI w wx w.heap.size q5 k5 q6 k6 q7 k7 c Es ni ne nt))
  case first =>
   go_region_law (first
    | (refine step_call (by rfl) 45 [.tmp 8] _ [.slice iq ni ia] (by rfl) (by rfl) (callInstr _) (fun v w' => Hid (w'.ownsRow X.drew.heap.size 86 3 v ni (c.ins.flatMap ic)) ∧ Hid (Below X.drew.heap.size X.drew w')) (d0.mono fun _ _ q => by (obtain ⟨v, q1, q2, q3⟩ := q; exact ⟨v, q1, q2, q3⟩)) ?_; rintro v5 w5 ⟨H5, B5⟩; obtain ⟨q5, k5, e5, -, -⟩ := own_slice H5.out; subst e5; have HB5 : Hid (Below X.heap.size X w5) := below2 HB0.out B5.out; obtain ⟨⟨s0, s1, s2⟩, -⟩ := HC.out w5 HB5.out; have d5 := (HD.out w5 HB5.out).2.1)
    | (refine step_call (by rfl) 46 [.tmp 11] _ [.slice eq ne ea] (by rfl) (by rfl) (callEntry _) (fun v w' => Hid (w'.ownsRow w5.heap.size 71 5 v ne (Es.flatMap ec)) ∧ Hid (Below w5.heap.size w5 w')) (d5.mono fun _ _ q => by (obtain ⟨v, q1, q2, q3⟩ := q; exact ⟨v, q1, q2, q3⟩)) ?_; rintro v6 w6 ⟨H6, B6⟩; obtain ⟨q6, k6, e6, -, -⟩ := own_slice H6.out; subst e6; have HB6 : Hid (Below X.heap.size X w6) := below2 HB5.out B6.out; obtain ⟨⟨t0, t1, t2⟩, -⟩ := HC.out w6 HB6.out; have d6 := (HD.out w6 HB6.out).2.2)
    | (refine step_call (by rfl) 47 [.tmp 14] _ [.slice tq nt ta] (by rfl) (by rfl) (callString _) (fun v w' => Hid (w'.ownsRow w6.heap.size 9 1 v nt (tv c.txs)) ∧ Hid (Below w6.heap.size w6 w')) (d6.mono fun _ _ q => by (obtain ⟨v, q1, q2, q3⟩ := q; exact ⟨v, q1, q2, q3⟩)) ?_; rintro v7 w7 ⟨H7, B7⟩; obtain ⟨q7, k7, e7, -, -⟩ := own_slice H7.out; subst e7; have HB7 : Hid (Below X.heap.size X w7) := below2 HB6.out B7.out; obtain ⟨⟨u0, u1, u2⟩, m0, m1, m2⟩ := HC.out w7 HB7.out))
   all_goals
    clear c0 c1 c2 s0 s1 s2 t0 t1 t2 u0 u1 u2 m0 m1 m2 d0 d5 d6
    go_wp2_with fail
    go_meet
    refine ⟨rfl, q5, k5, q6, k6, q7, k7, ?_⟩
    exact HFI.out w5 w6 w7 q5 k5 q6 k6 q7 k7 H5 B5 H6 B6 H7 B7
  case rest =>
   obtain ⟨rfl, q5, k5, q6, k6, q7, k7, HI⟩ := hcut
   clear HFI c0 c1 c2 d0 HB0 HC HD hX
   have HLE : Hid (w.heap.size + 2 ≤ wc.heap.size) := by have := HI.out.rs.lt; show _ ≤ _; omega
   obtain ⟨c1, g1⟩ := HI.out.cd.cell 1 _ rfl
   go_wp2_with fail
   have HE0 : Hid (CopE w wc w.heap.size q5 k5 q6 k6 q7 k7 c Es ni ne nt 0) := ⟨⟨Es, HI.out, hEl, rfl, fun _ _ => rfl, fun k x hk => absurd hk (by omega)⟩, HLE.out⟩
   have HES : Hid (Es.length = ne ∧ ne ≤ 60 ∧ ∀ x ∈ Es, RdS w x.2.1 x.1.sorts.length x.2.2 (sv x.1.sorts) ∧ x.1.sorts.length ≤ 250 ∧ x.1.name.size ≤ 24) := ⟨hEl, hel, fun x hx => by
     have hm : x.1 ∈ c.ens := by rw [← h.en]; exact List.mem_map_of_mem hx
     have := ent_ok.1 (hc.es _ hm)
     exact ⟨h.sr x hx, this.sl, (name_len this.nm).2⟩⟩
   clear HI HLE c1 g1
   go_loopw [22] (fun v wv => ∃ j : Nat, j ≤ ne ∧ v = .int .i64 (j : Int) ∧ Hid (CopE w wv w.heap.size q5 k5 q6 k6 q7 k7 c Es ni ne nt j)) (fun v _ => ne - (intOf v).toNat)
   case atStart => exact ⟨0, Nat.zero_le _, rfl, HE0⟩
   case round =>
     obtain ⟨j, hj, rfl, hI⟩ := hrel
     by_cases hlt : j < ne
     case neg =>
       obtain rfl : j = ne := by omega
       have HIE : Hid _ := hI
       obtain ⟨M, hM1, -⟩ := hI.out.ex
       obtain ⟨c2, -⟩ := hM1.cd.cell 2 _ rfl
       clear hM1 HE0
       have HTX : Hid (c.txs.length = nt ∧ nt ≤ 4000 ∧ ∀ t ∈ c.txs, t.size ≤ 200) := ⟨hnt, htl, hc.ts⟩
       have HFIN : Hid (∀ W W', CopE w W w.heap.size q5 k5 q6 k6 q7 k7 c Es ni j nt j → (∀ b, b ≠ w.heap.size + 1 → W'.heap[b]? = W.heap[b]?) → ∃ M, CdN W' w.heap.size q5 q6 q7 M c) := fun W W' hW hk => by
         rw [← hni, ← hne, ← hnt] at hW
         exact hW.cdN h.en hk
       go_wp2_with fail
       go_loopw [47] (fun v wv => ∃ i : Nat, i ≤ nt ∧ v = .int .i64 (i : Int) ∧ Hid (CopE w wv w.heap.size q5 k5 q6 k6 q7 k7 c Es ni j nt j)) (fun v _ => nt - (intOf v).toNat)
       case atStart => exact ⟨0, Nat.zero_le _, rfl, HIE⟩
       case round =>
         obtain ⟨i, hi, rfl, hJ⟩ := hrel
         by_cases hlt2 : i < nt
         case neg =>
           obtain rfl : i = nt := by omega
           obtain ⟨M2, hM2, -⟩ := hJ.out.ex
           obtain ⟨e0, -⟩ := hM2.cd.cell 0 _ rfl
           obtain ⟨e1, -⟩ := hM2.cd.cell 1 _ rfl
           obtain ⟨e2, -⟩ := hM2.cd.cell 2 _ rfl
           obtain ⟨e3, -⟩ := hM2.cd.cell 3 _ rfl
           obtain ⟨y0, g0⟩ := hM2.rs.cell 0 _ rfl
           obtain ⟨y1, g1⟩ := hM2.rs.cell 1 _ rfl
           obtain ⟨y2, g2⟩ := hM2.rs.cell 2 _ rfl
           obtain ⟨y3, g3⟩ := hM2.rs.cell 3 _ rfl
           go_wp2
           refine bodyPost_ret (ret_cc (t := 26) (Full.put (g := w.heap.size + 1) [.slice q5 ni k5, .slice q6 j k6, .slice q7 i k7, .int .i64 c.main] (a := []) (b := [.slice none 0 0, .slice none 0 0, .slice none 0 0, .int .i64 0]) (d := []) hM2.rs rfl) rfl) rfl ⟨q5, k5, q6, k6, q7, k7, rfl, HFIN.out wr _ hJ.out fun b hb => sets_heap (B := w.heap.size + 1) hb [.slice q5 ni k5, .slice q6 j k6, .slice q7 i k7, .int .i64 c.main] 0 wr, ?_⟩
           exact below_sets (b := w.heap.size + 1) hM2.bl (Nat.le_succ _) 0 [.slice q5 ni k5, .slice q6 j k6, .slice q7 i k7, .int .i64 c.main]
         have i0 : (0 : Int) ≤ (i : Int) := Int.natCast_nonneg _
         have i1 : (i : Int) < (nt : Int) := Int.ofNat_lt.2 hlt2
         have hw : IntKind.i64.wrap ((i : Int) + 1) = ((i + 1 : Nat) : Int) := by have := HTX.out.2.1; rw [IntKind.wrap_i64]; omega
         have hil : i < c.txs.length := by rw [HTX.out.1]; exact hlt2
         obtain ⟨s, hs⟩ : ∃ s, c.txs[i] = s := ⟨_, rfl⟩
         have HSZ : Hid (s.size ≤ 281474976710656) := by have := HTX.out.2.2 _ (List.getElem_mem hil); rw [hs] at this; show _ ≤ _; omega
         have hgt : ∃ gt, q7 = some ⟨gt, 0, none⟩ := by
           obtain ⟨M, h1, -⟩ := hJ.out.ex
           obtain ⟨q', c', e', -, hq⟩ := own_slice h1.t
           cases e'
           obtain ⟨gt, e, -⟩ := hq (by omega)
           exact ⟨gt, e⟩
         obtain ⟨gt, rfl⟩ := hgt
         have HCT : Hid (∀ W, CopE w W w.heap.size q5 k5 q6 k6 (some ⟨gt, 0, none⟩) k7 c Es ni j nt j → W.cell? ⟨w.heap.size, 2, none⟩ = some (.slice (some ⟨gt, 0, none⟩) nt k7) ∧ W.cell? ⟨gt, i, none⟩ = some (.string s) ∧ W.frozen? ⟨gt, i, none⟩ = false ∧ W.setCell ⟨gt, i, none⟩ (.string s) = W) := fun W hW => by
           obtain ⟨M, h1, -⟩ := hW.ex
           have hb := own_blk h1.t gt rfl
           have h0 : W.cell? ⟨gt, i, none⟩ = some (.string s) := by
             rw [h1.t.cellAt i (by omega)]
             unfold tv
             rw [List.getElem?_map, List.getElem?_eq_getElem hil, hs]
             rfl
           refine ⟨(h1.cd.cell 2 _ rfl).1, h0, hb.unfrozen _, ?_⟩
           obtain ⟨C, hC, -⟩ := hb
           exact set_self hC _ (by simpa [World.cell?, hC] using h0)
         obtain ⟨-, c0, -, -⟩ := HCT.out wr hJ.out
         clear hs hil
         go_upto_region 10 with fail
         clear c0
         have b0 : Below wr.heap.size wr wr.drew := (Below.refl _ wr).drew
         have HX0 : Hid (CopE w wr.drew w.heap.size q5 k5 q6 k6 (some ⟨gt, 0, none⟩) k7 c Es ni j nt j) := hJ.out.next b0
         have dS := Hp.clone_any s wr.drew HSZ.out
         have SV : Hid (∀ W, CopE w W w.heap.size q5 k5 q6 k6 (some ⟨gt, 0, none⟩) k7 c Es ni j nt j → W.cell? ⟨w.heap.size, 2, none⟩ = some (.slice (some ⟨gt, 0, none⟩) nt k7)) := fun W hW => (HCT.out W hW).1
         clear b0
         go_region_held3 (fun w' => w'.cell? ⟨w.heap.size, 2, none⟩ = some (.slice (some ⟨gt, 0, none⟩) nt k7)) (first | exact SV.out _ HX0.out | exact SV.out _ HX5.out | (rw [hself]; exact SV.out _ HX5.out))
           (first
           | (go_at_call 48; (with_reducible refine dS.mono ?_); rintro z5 w5 ⟨rfl, B5⟩; have HX5 : Hid _ := HX0.out.next B5; obtain ⟨-, r0, g0, hself⟩ := HCT.out w5 HX5.out)
           | fail)
         clear SV dS r0 g0 hself
         go_wp2
         exact ⟨⟨i + 1, by omega, by first | rfl | (push_cast; rfl) | go_num, HX5.out⟩, by simp [intOf]; omega⟩
     have j0 : (0 : Int) ≤ (j : Int) := Int.natCast_nonneg _
     have j1 : (j : Int) < (ne : Int) := Int.ofNat_lt.2 hlt
     have hw : IntKind.i64.wrap ((j : Int) + 1) = ((j + 1 : Nat) : Int) := by have := HES.out.2.1; rw [IntKind.wrap_i64]; omega
     obtain ⟨x, hx⟩ : ∃ x, Es[j]? = some x := ⟨Es[j]'(by rw [HES.out.1]; exact hlt), List.getElem?_eq_getElem _⟩
     obtain ⟨hsr, hs250, hn24⟩ := HES.out.2.2 x (List.mem_of_getElem? hx)
     have hge : ∃ ge, q6 = some ⟨ge, 0, none⟩ := by
       obtain ⟨M, h1, -⟩ := hI.out.ex
       obtain ⟨q', c', e', -, hq⟩ := own_slice h1.e
       cases e'
       obtain ⟨ge, e, -⟩ := hq (by omega)
       exact ⟨ge, e⟩
     obtain ⟨ge, rfl⟩ := hge
     obtain ⟨ns, hns⟩ : ∃ ns, x.1.sorts.length = ns := ⟨_, rfl⟩
     have HCE : Hid (∀ W, CopE w W w.heap.size q5 k5 (some ⟨ge, 0, none⟩) k6 q7 k7 c Es ni ne nt j → W.cell? ⟨w.heap.size, 1, none⟩ = some (.slice (some ⟨ge, 0, none⟩) ne k6) ∧ (W.cell? ⟨ge, j * 5, none⟩ = some (.string x.1.name) ∧ W.cell? ⟨ge, j * 5 + 1, none⟩ = some (.int .i64 x.1.start) ∧ W.cell? ⟨ge, j * 5 + 2, none⟩ = some (.int .i64 x.1.params) ∧ W.cell? ⟨ge, j * 5 + 3, none⟩ = some (.slice x.2.1 ns x.2.2) ∧ W.cell? ⟨ge, j * 5 + 4, none⟩ = some (.int .i64 x.1.result)) ∧ (W.frozen? ⟨ge, j * 5, none⟩ = false ∧ W.frozen? ⟨ge, j * 5 + 3, none⟩ = false) ∧ W.setCell ⟨ge, j * 5, none⟩ (.string x.1.name) = W) := fun W hW => by
       obtain ⟨M, h1, h2, -, h4, -⟩ := hW.ex
       have hMj : M[j]? = some x := (h4 j (Nat.le_refl _)).trans hx
       obtain ⟨hjl, rfl⟩ := List.getElem?_eq_some_iff.1 hMj
       have hb := own_blk h1.e ge rfl
       have cc : ∀ i, i < 5 → W.cell? ⟨ge, j * 5 + i, none⟩ = (ec M[j])[i]? := fun i hi => (h1.e.cellAt (j * 5 + i) (by omega)).trans (flat_at ec 5 (fun _ => rfl) M j i hjl hi)
       refine ⟨(h1.cd.cell 1 _ rfl).1, ⟨cc 0 (by decide), cc 1 (by decide), cc 2 (by decide), by rw [← hns]; exact cc 3 (by decide), cc 4 (by decide)⟩, ⟨hb.unfrozen _, hb.unfrozen _⟩, ?_⟩
       obtain ⟨C, hC, -⟩ := hb
       refine set_self hC _ ?_
       have h0 : W.cell? ⟨ge, j * 5, none⟩ = some (.string M[j].1.name) := cc 0 (by decide)
       simpa [World.cell?, hC] using h0
     have HPU : Hid (∀ W, CopE w W w.heap.size q5 k5 (some ⟨ge, 0, none⟩) k6 q7 k7 c Es ni ne nt j → ∀ q cap, W.ownsRow w.heap.size 69 1 (.slice q ns cap) ns (sv x.1.sorts) → CopE w (W.setCell ⟨ge, j * 5 + 3, none⟩ (.slice q ns cap)) w.heap.size q5 k5 (some ⟨ge, 0, none⟩) k6 q7 k7 c Es ni ne nt (j + 1)) := fun W hW q cap ho => by
       rw [← hns] at ho ⊢
       obtain ⟨ge', e, r⟩ := hW.put hx hlt ho
       cases e
       exact r
     have HSO : Hid (∀ W, CopE w W w.heap.size q5 k5 (some ⟨ge, 0, none⟩) k6 q7 k7 c Es ni ne nt j → Calls Tryz.prog 49 #[.slice x.2.1 ns x.2.2] W fun z w' => ∃ v', z = .returned v' ∧ Hid (w'.ownsRow w.heap.size 69 1 v' ns (sv x.1.sorts)) ∧ Below W.heap.size W w') := fun W hW => by
       obtain ⟨M, h1, -⟩ := hW.ex
       rw [hns] at hsr hs250
       have ll : (sv x.1.sorts).length = ns * 1 := by rw [sv_len, hns]; omega
       exact (cloneSort_any (hsr.next (by omega) h1.bl) ll (sv_one _) (by omega)).mono fun z w' q => by
         obtain ⟨v', r1, r2, r3⟩ := q
         exact ⟨v', r1, own_down r2.out (by have := hW.sz; omega), r3⟩
     obtain ⟨-, ⟨c0, c1, c2, c3, c4⟩, -, -⟩ := HCE.out wr hI.out
     have HXC : Hid (CopE w (wr.alloc (.cells #[.string x.1.name, .int .i64 x.1.start, .int .i64 x.1.params, .slice x.2.1 ns x.2.2, .int .i64 x.1.result] 71)) w.heap.size q5 k5 (some ⟨ge, 0, none⟩) k6 q7 k7 c Es ni ne nt j) := hI.out.next ((Below.refl _ wr).alloc (Nat.le_refl _) _)
     have fE := Full.new wr #[.string x.1.name, .int .i64 x.1.start, .int .i64 x.1.params, .slice x.2.1 ns x.2.2, .int .i64 x.1.result] 71
     have hnm : x.1.name.size ≤ 281474976710656 := by omega
     have HNM : Hid _ := hnm
     clear hsr hs250 hn24 hns hnm
     go_upto_region 5 with fail
     generalize wr.alloc (.cells #[.string x.1.name, .int .i64 x.1.start, .int .i64 x.1.params, .slice x.2.1 ns x.2.2, .int .i64 x.1.result] 71) = Y at HXC fE ⊢
     have b0 : Below Y.heap.size Y Y.drew := (Below.refl _ Y).drew
     have HX0 : Hid (CopE w Y.drew w.heap.size q5 k5 (some ⟨ge, 0, none⟩) k6 q7 k7 c Es ni ne nt j) := HXC.out.next b0
     have HFE : Hid (∀ W, Below Y.heap.size Y W → W.cell? ⟨wr.heap.size, 0, none⟩ = some (.string x.1.name) ∧ W.cell? ⟨wr.heap.size, 3, none⟩ = some (.slice x.2.1 ns x.2.2)) := fun W b => ⟨((fE.next b).cell 0 _ rfl).1, ((fE.next b).cell 3 _ rfl).1⟩
     obtain ⟨a1, -⟩ := HCE.out Y.drew HX0.out
     obtain ⟨a2, a3⟩ := HFE.out Y.drew b0
     have HB0 : Hid (Below Y.heap.size Y Y.drew) := b0
     have HNE : Hid (ge ≠ w.heap.size ∧ ge ≠ wr.heap.size) := by
       obtain ⟨M, h1, -⟩ := HXC.out.ex
       have hb := own_blk h1.e ge rfl
       refine ⟨fun e => hb.ne (g' := w.heap.size) ⟨_, h1.cd, Nat.zero_le _⟩ (by decide) e, fun e => ?_⟩
       obtain ⟨M, h1, -⟩ := hI.out.ex
       have := (own_blk h1.e ge rfl).lt
       omega
     clear b0 fE c0 c1 c2 c3 c4
     obtain ⟨Sp, hSp⟩ : ∃ Sp : World → Prop, ∀ W, Sp W ↔ (W.cell? ⟨w.heap.size, 1, none⟩ = some (.slice (some ⟨ge, 0, none⟩) ne k6) ∧ W.cell? ⟨wr.heap.size, 0, none⟩ = some (.string x.1.name) ∧ W.cell? ⟨wr.heap.size, 3, none⟩ = some (.slice x.2.1 ns x.2.2)) := ⟨_, fun _ => Iff.rfl⟩
     have SV : Hid (∀ W, Sp W → W.cell? ⟨w.heap.size, 1, none⟩ = some (.slice (some ⟨ge, 0, none⟩) ne k6) ∧ W.cell? ⟨wr.heap.size, 0, none⟩ = some (.string x.1.name) ∧ W.cell? ⟨wr.heap.size, 3, none⟩ = some (.slice x.2.1 ns x.2.2)) := fun W h => (hSp W).1 h
     have SU : Hid (∀ W j v, Sp W → Sp (W.setCell ⟨ge, j, none⟩ v)) := fun W j v h => by
       rw [hSp] at h ⊢
       have k := fun b o (hb : b ≠ ge) => World.cell?_of_block (w := W) (w' := W.setCell ⟨ge, j, none⟩ v) (a := ⟨b, o, none⟩) (set_heap (a := ⟨ge, j, none⟩) hb)
       exact ⟨(k _ _ (Ne.symm HNE.out.1)).trans h.1, (k _ _ (Ne.symm HNE.out.2)).trans h.2.1, (k _ _ (Ne.symm HNE.out.2)).trans h.2.2⟩
     have SB : Hid (∀ W, Below Y.heap.size Y W → CopE w W w.heap.size q5 k5 (some ⟨ge, 0, none⟩) k6 q7 k7 c Es ni ne nt j → Sp W) := fun W b hW => (hSp W).2 ⟨(HCE.out W hW).1, (HFE.out W b).1, (HFE.out W b).2⟩
     have sp0 : Sp Y.drew := SB.out _ HB0.out HX0.out
     have dS := Hp.clone_any x.1.name Y.drew HNM.out
     clear hSp a1 a2 a3
     go_region_held3 (fun w' => w'.cell? ⟨w.heap.size, 1, none⟩ = some (.slice (some ⟨ge, 0, none⟩) ne k6) ∧ w'.cell? ⟨wr.heap.size, 0, none⟩ = some (.string x.1.name) ∧ w'.cell? ⟨wr.heap.size, 3, none⟩ = some (.slice x.2.1 ns x.2.2)) (exact SV.out _ (by first | with_reducible assumption | exact SU.out _ _ _ (by with_reducible assumption) | exact SU.out _ _ _ (SU.out _ _ _ (by with_reducible assumption))))
       (first
       | (go_at_call 48; (with_reducible refine dS.mono ?_); rintro z5 w5 ⟨rfl, B5⟩; have HB5 : Hid (Below Y.heap.size Y w5) := below2 HB0.out B5; have HX5 : Hid _ := HX0.out.next B5; have sp5 : Sp w5 := SB.out _ HB5.out HX5.out; have d5 := HSO.out w5 HX5.out)
       | (go_at_call 49; (with_reducible refine d5.mono ?_); rintro z6 w6 ⟨v6, rfl, H6, B6⟩; obtain ⟨q9, k9, e9, -, -⟩ := own_slice H6.out; subst e9; have HB6 : Hid (Below Y.heap.size Y w6) := below2 HB5.out B6; have HX6 : Hid _ := HX5.out.next B6; have sp6 : Sp w6 := SB.out _ HB6.out HX6.out; obtain ⟨-, ⟨r0, -, -, r3, -⟩, ⟨g0, g3⟩, hself⟩ := HCE.out w6 HX6.out; have HFI : Hid _ := HPU.out w6 HX6.out q9 k9 H6.out)
       | fail)
     clear SV SU SB sp0 sp5 sp6 dS d5 r0 r3 g0 g3 hself
     go_wp2
     exact ⟨⟨j + 1, by omega, by first | rfl | (push_cast; rfl) | go_num, HFI.out⟩, by simp [intOf]; omega⟩
end Go.Proofs.YtahdkffijlfmnaaGreatDoor

namespace Go.Proofs.YtahdkffijlfmnaaGreatDoor
open Go.RowKit
open Hp (V vc vcs)
def mayRunS (n : Nat) (d l : Int) : Bool := decide ((n : Int) ≤ 1000) && (decide (1 ≤ d) && (decide (d ≤ 1000) && (decide (0 ≤ l) && decide (l ≤ 100000))))
set_option maxRecDepth 100000 in
set_option maxHeartbeats 2000000 in
theorem mayRun_any (q : Option Addr) (n cap : Nat) (d l : Int) (w : World) : Calls Tryz.prog 21 #[.slice q n cap, .agg #[.int .i64 d, .int .i64 l]] w fun z w' => z = .returned (.bool (mayRunS n d l)) ∧ Below w.heap.size w w' := by
  have B1 : Below w.heap.size w (w.alloc (.cells #[.int .i64 d, .int .i64 l] 29)) := (Below.refl _ w).alloc (Nat.le_refl _) _
  unfold mayRunS
  by_cases h1 : (n : Int) ≤ 1000 <;> by_cases h2 : 1 ≤ d <;> by_cases h3 : d ≤ 1000 <;> by_cases h4 : 0 ≤ l <;> by_cases h5 : l ≤ 100000
  all_goals first
    | (exfalso; omega)
    | (simp only [h1, h2, h3, h4, h5, decide_true, decide_false, Bool.and_true, Bool.and_false]
       go_enter Tryz.func21, Tryz.ntmps21
       go_wp2
       go_ret
       exact ⟨rfl, B1⟩)
def ms0 : Ms := ⟨[], [], 0, [], 0, 0, 0⟩
def mcell (K : Cg) : List Value := [.slice K.iq K.c.ins.length K.ia, .slice K.eq K.c.ens.length K.ea, .slice K.tq K.c.txs.length K.ta, .int .i64 K.c.main, .slice K.nq K.inp.length K.na, .int .i64 K.dep, .int .i64 (K.lim : Int), .slice none 0 0, .int .i64 (K.lim : Int), .int .i64 0, .slice none 0 0, .slice none 0 0, .int .i64 0, .slice none 0 0, .int .i64 0, .int .i64 0, .int .i64 0]
theorem mach0 {W : World} {g : Nat} {K : Cg} {Q : Nat → Prop} (hf : Full W g 82 (mcell K)) (hc : CodeQ W Q K) (hq : ¬ Q g) (hl : K.lim ≤ 100000) : MachM W g K ms0 [] (.slice none 0 0) (.slice none 0 0) (fun b => b = g) Q where
  code := hc
  heap := by
    refine ⟨[], none, 0, 0, 0, .slice none 0 0, rfl, ?_⟩
    exact {
      blk := ⟨_, hf, by show 17 ≤ _; simp [mcell]⟩
      c0 := (hf.cell 8 _ rfl).1
      c1 := (hf.cell 9 _ rfl).1
      c2 := (hf.cell 10 _ rfl).1
      c3 := (hf.cell 11 _ rfl).1
      arrs := World.ownsRow_nil _ _ _ _
      els := fun a ha => by cases ha
      room := fun h => by omega
      sep := List.Pairwise.nil
      sepr := fun a ha => by cases ha
      fp := rfl
      fa := fun g hg => by cases hg
      flt := fun b hb => by have hb : b = g := hb; rw [hb]; exact hf.lt
      le := Nat.zero_le _
      top := hl
      small := Nat.zero_le _
      ok := fun a ha => by cases ha
      tn := by show 82 ≠ 117 ∧ 82 ≠ 52 ∧ 8 + 4 ≤ 17; decide
      rs := fun x hx => by
        have hx : x ∈ msc K ms0 (.slice none 0 0) (.slice none 0 0) := hx
        unfold msc at hx
        simp only [List.mem_cons, List.not_mem_nil, or_false] at hx
        rcases hx with rfl | rfl | rfl | rfl | rfl | rfl | rfl | rfl | rfl | rfl | rfl | rfl | rfl
        · exact ⟨.inl (show 0 < 8 by decide), (hf.cell 0 _ rfl).1⟩
        · exact ⟨.inl (show 1 < 8 by decide), (hf.cell 1 _ rfl).1⟩
        · exact ⟨.inl (show 2 < 8 by decide), (hf.cell 2 _ rfl).1⟩
        · exact ⟨.inl (show 3 < 8 by decide), (hf.cell 3 _ rfl).1⟩
        · exact ⟨.inl (show 4 < 8 by decide), (hf.cell 4 _ rfl).1⟩
        · exact ⟨.inl (show 5 < 8 by decide), (hf.cell 5 _ rfl).1⟩
        · exact ⟨.inl (show 6 < 8 by decide), (hf.cell 6 _ rfl).1⟩
        · exact ⟨.inl (show 7 < 8 by decide), (hf.cell 7 _ rfl).1⟩
        · exact ⟨.inr (show 8 + 4 ≤ 12 by decide), (hf.cell 12 _ rfl).1⟩
        · exact ⟨.inr (show 8 + 4 ≤ 13 by decide), (hf.cell 13 _ rfl).1⟩
        · exact ⟨.inr (show 8 + 4 ≤ 14 by decide), (hf.cell 14 _ rfl).1⟩
        · exact ⟨.inr (show 8 + 4 ≤ 15 by decide), (hf.cell 15 _ rfl).1⟩
        · exact ⟨.inr (show 8 + 4 ≤ 16 by decide), (hf.cell 16 _ rfl).1⟩ }
  fr := rown_nil _ _ _
  abs := rfl
  rows m hm := by cases hm
  out := rown_nil _ _ _
  sep i j x y hi := by cases hi
  nf m hm := by cases hm
  nv b hb := by rcases hb with hb | hb <;> cases hb
  nq b hb := ⟨fun e => hq (by have e : b = g := e; rw [← e]; exact hb), (by intro q; cases q), (by intro q; cases q), fun m hm => by cases hm⟩
def msN (E : En) (main : Int) : Ms := { ms0 with fs := [⟨main, E.start, slotsS E.sorts [], []⟩] }
def newE (c : Cd) (n : Nat) (d l : Int) : Int := if mayRunS n d l = false then 1 else if validS c ≠ 0 then validS c else if 0 < (enAt c.ens c.main.toNat).params ∨ (enAt c.ens c.main.toNat).result ≠ 0 then 160 else 0
def NewM (w w' : World) (g : Nat) (c : Cd) (inp : List Int) (d : Int) (lim : Nat) : Prop :=
  ∃ K L fv ov F Q, MachM w' g K (msN (enAt c.ens c.main.toNat) c.main) L fv ov F Q ∧ KOk K ∧ K.c = c ∧ K.inp = inp ∧ K.dep = d ∧ K.lim = lim ∧ ∀ b, foot L fv ov F b ∨ Q b → w.heap.size ≤ b
theorem CdR.codeM {w : World} {iq eq tq : Option Addr} {ia ea ta : Nat} {Es : List Em} {c : Cd} (h : CdR w iq eq tq ia ea ta Es c) (h1 : c.ins.length ≤ 9223372036854775807) (h2 : c.ens.length ≤ 9223372036854775807) (h3 : c.txs.length ≤ 9223372036854775807) (h4 : ∀ t ∈ c.txs, t.size ≤ 9223372036854775807) (h5 : ∀ x ∈ Es, x.1.name.size ≤ 9223372036854775807 ∧ x.1.sorts.length ≤ 9223372036854775807) : CodeM w w.heap.size iq eq tq Es c := by
  have hEl : Es.length = c.ens.length := by rw [← h.en, List.length_map]
  have kr : ∀ {q : Option Addr} {n cap : Nat} {xs : List Value}, RdS w q n cap xs → (0 < n → 0 < xs.length) → Row w w.heap.size q n xs := fun hr hl hn => by
    obtain ⟨g, o, e, r⟩ := hr.at_ hn
    exact ⟨g, o, e, block_lt_of_cell (r 0 _ (List.getElem?_eq_getElem (hl hn))), r⟩
  exact ⟨h.en, kr h.ir (by rw [ic_len]; omega), kr h.er (by rw [ec_len]; omega), kr h.tr (by rw [tv_len]; omega), fun x hx => ⟨kr (h.sr x hx) (by rw [sv_len]; omega), h5 x hx⟩, h1, h2, h3, h4⟩
theorem CdN.next {W W' : World} {B : Nat} {iq eq tq : Option Addr} {M : List Em} {c : Cd} (h : CdN W B iq eq tq M c) (k : Below W.heap.size W W') : CdN W' B iq eq tq M c := h.same fun b o _ hv => (k.cell (p := ⟨b, o, none⟩) (block_lt_of_cell hv)).trans hv
theorem CdN.codeQ {W : World} {B B2 : Nat} {K : Cg} (h : CdN W B K.iq K.eq K.tq K.Es K.c) (hn : W.ownsRow B2 2 1 (.slice K.nq K.inp.length K.na) K.inp.length (sv K.inp)) (hB : B ≤ B2) : CodeQ W (fun b => B ≤ b ∧ b < W.heap.size) K := by
  have hEl : K.Es.length = K.c.ens.length := by rw [← h.en, List.length_map]
  have kr : ∀ {q : Option Addr} {n : Nat} {xs : List Value}, RowQ W (fun b => B ≤ b) q n xs → (0 < n → 0 < xs.length) → RowQ W (fun b => B ≤ b ∧ b < W.heap.size) q n xs := fun hr hl hn => by
    obtain ⟨g, o, r1, r2, r3⟩ := hr hn
    exact ⟨g, o, r1, ⟨r2, block_lt_of_cell (r3 0 _ (List.getElem?_eq_getElem (hl hn)))⟩, r3⟩
  refine ⟨h.en, kr h.ir (by rw [ic_len]; omega), kr h.er (by rw [ec_len]; omega), kr h.tr (by rw [tv_len]; omega), fun x hx => kr (h.sr x hx) (by rw [sv_len]; omega), kr (fun h0 => ?_) (by rw [sv_len]; omega), fun b hb => hb.2⟩
  obtain ⟨g, o, r1, r2, r3⟩ := rowQ_own hn h0
  exact ⟨g, o, r1, Nat.le_trans hB r2, r3⟩
theorem newM_of {w Z w' : World} {g : Nat} {K : Cg} {Q : Nat → Prop} {c : Cd} {mi : Nat} (hK : KOk K) (hc : K.c = c) (hmi : c.main = (mi : Int)) (hml : mi < K.Es.length) (hq : ∀ b, Q b → w.heap.size ≤ b) (hg : w.heap.size ≤ g) (hZ : w.heap.size ≤ Z.heap.size)
    (h : WentM Z w' g K { ms0 with fs := ms0.fs ++ [⟨(mi : Int), (K.Es[mi]).1.start, slotsS (K.Es[mi]).1.sorts [], []⟩] } [] (.slice none 0 0) (.slice none 0 0) (fun b => b = g) Q) : NewM w w' g c K.inp K.dep K.lim := by
  obtain ⟨L', fv', ov', F', k1, k2, -⟩ := h
  have e : enAt c.ens c.main.toNat = (K.Es[mi]).1 := by rw [← hc, ← hK.at_ mi hml, hc, hmi, Int.toNat_natCast]
  refine ⟨K, L', fv', ov', F', Q, ?_, hK, hc, rfl, rfl, rfl, fun b hb => ?_⟩
  · unfold msN
    rw [e, hmi]
    exact k1
  · rcases hb with hb | hb
    · rcases k2 b hb with (r | r | r | ⟨m, hm, -⟩) | r
      · have r : b = g := r
        omega
      · cases r
      · cases r
      · cases hm
      · omega
    · exact hq b hb
end Go.Proofs.YtahdkffijlfmnaaGreatDoor

namespace Go.Proofs.YtahdkffijlfmnaaGreatDoor
open Go.RowKit
open Hp (V vc vcs)
def twc (K : Cg) (S : Ms) (fv h0 h1 h2 h3 ov : Value) : List Value := [.slice K.iq K.c.ins.length K.ia, .slice K.eq K.c.ens.length K.ea, .slice K.tq K.c.txs.length K.ta, .int .i64 K.c.main, .slice K.nq K.inp.length K.na, .int .i64 K.dep, .int .i64 (K.lim : Int), fv, h0, h1, h2, h3, .int .i64 (S.rd : Int), ov, .int .i64 S.steps, .int .i64 S.ph, .int .i64 S.tr]
theorem mach_of {W : World} {T gh : Nat} {K : Cg} {S : Ms} {L : List Fm} {fv ov : Value} {Fh Q : Nat → Prop} {As : List Hp.Ar} {rq : Option Addr} {rn rg ro : Nat} {av : Value}
    (hf : Cel W T (twc K S fv (.int .i64 (K.lim : Int)) (.int .i64 (Hp.usedS (Hp.absA As) : Int)) (.slice rq rn rn) av ov))
    (hc : CodeQ W Q K) (hh : Hp.HeapAt W (Hp.hz gh) K.lim As rq rn rg ro av Fh) (hA : Hp.absA As = S.hp)
    (fr : OwnR W 89 4 fv L.length (L.flatMap fmc)) (abs : L.map (·.f) = S.fs)
    (rows : ∀ m ∈ L, OwnR W 52 3 m.sv m.f.sl.length (vcs m.f.sl) ∧ OwnR W 52 3 m.tv m.f.st.length (vcs m.f.st))
    (out : OwnR W 5 1 ov S.out.length (Hp.bv S.out))
    (sep : ∀ (i j : Nat) (x y : Fm), L[i]? = some x → L[j]? = some y → (∀ b, (obk x.sv) = some b → (obk y.tv) ≠ some b) ∧ (i ≠ j → (∀ b, (obk x.sv) = some b → (obk y.sv) ≠ some b) ∧ ∀ b, (obk x.tv) = some b → (obk y.tv) ≠ some b))
    (nf : ∀ m ∈ L, ∀ b, (obk m.sv) = some b ∨ (obk m.tv) = some b → ¬ (b = T ∨ Fh b))
    (nv : ∀ b, (obk fv) = some b ∨ (obk ov) = some b → ¬ (b = T ∨ Fh b))
    (nq : ∀ b, Q b → ¬ (b = T ∨ Fh b) ∧ (obk fv) ≠ some b ∧ (obk ov) ≠ some b ∧ ∀ m ∈ L, (obk m.sv) ≠ some b ∧ (obk m.tv) ≠ some b) :
    MachM W T K S L fv ov (fun b => b = T ∨ Fh b) Q where
  code := hc
  heap := by
    refine ⟨As, rq, rn, rg, ro, av, hA, ?_⟩
    exact {
      blk := hf.1
      c0 := (hf.2 8 _ rfl)
      c1 := (hf.2 9 _ rfl)
      c2 := (hf.2 10 _ rfl)
      c3 := (hf.2 11 _ rfl)
      arrs := hh.arrs
      els := fun a ha hne => by obtain ⟨h1, h2, h3, h4⟩ := hh.els a ha hne; exact ⟨h1, h2, h3, .inr h4⟩
      room := fun h => by obtain ⟨h1, h2, h3⟩ := hh.room h; exact ⟨h1, h2, .inr h3⟩
      sep := hh.sep
      sepr := hh.sepr
      fp := .inl rfl
      fa := fun g hg => .inr (hh.fa g hg)
      flt := fun b hb => by
        rcases hb with hb | hb
        · rw [hb]; exact hf.1.lt
        · exact hh.flt b hb
      le := hh.le
      top := hh.top
      small := hh.small
      ok := hh.ok
      tn := by show 82 ≠ 117 ∧ 82 ≠ 52 ∧ 8 + 4 ≤ 17; decide
      rs := fun x hx => by
        have hx : x ∈ msc K S fv ov := hx
        unfold msc at hx
        simp only [List.mem_cons, List.not_mem_nil, or_false] at hx
        rcases hx with rfl | rfl | rfl | rfl | rfl | rfl | rfl | rfl | rfl | rfl | rfl | rfl | rfl
        · exact ⟨.inl (show 0 < 8 by decide), (hf.2 0 _ rfl)⟩
        · exact ⟨.inl (show 1 < 8 by decide), (hf.2 1 _ rfl)⟩
        · exact ⟨.inl (show 2 < 8 by decide), (hf.2 2 _ rfl)⟩
        · exact ⟨.inl (show 3 < 8 by decide), (hf.2 3 _ rfl)⟩
        · exact ⟨.inl (show 4 < 8 by decide), (hf.2 4 _ rfl)⟩
        · exact ⟨.inl (show 5 < 8 by decide), (hf.2 5 _ rfl)⟩
        · exact ⟨.inl (show 6 < 8 by decide), (hf.2 6 _ rfl)⟩
        · exact ⟨.inl (show 7 < 8 by decide), (hf.2 7 _ rfl)⟩
        · exact ⟨.inr (show 8 + 4 ≤ 12 by decide), (hf.2 12 _ rfl)⟩
        · exact ⟨.inr (show 8 + 4 ≤ 13 by decide), (hf.2 13 _ rfl)⟩
        · exact ⟨.inr (show 8 + 4 ≤ 14 by decide), (hf.2 14 _ rfl)⟩
        · exact ⟨.inr (show 8 + 4 ≤ 15 by decide), (hf.2 15 _ rfl)⟩
        · exact ⟨.inr (show 8 + 4 ≤ 16 by decide), (hf.2 16 _ rfl)⟩ }
  fr := fr
  abs := abs
  rows := rows
  out := out
  sep := sep
  nf := nf
  nv := nv
  nq := nq
theorem MachM.full {w : World} {g : Nat} {K : Cg} {S : Ms} {L : List Fm} {fv ov : Value} {F Q : Nat → Prop} (h : MachM w g K S L fv ov F Q) : ∃ (u : Nat) (r a : Value), (∃ q n, r = Value.slice q n n) ∧ (∃ q n c, a = Value.slice q n c) ∧ ∀ W, Below w.heap.size w W → ∀ j v, (twc K S fv (.int .i64 (K.lim : Int)) (.int .i64 (u : Int)) r a ov)[j]? = some v → W.cell? ⟨g, j, none⟩ = some v := by
  obtain ⟨As, rq, rn, rg, ro, av, hA, hh⟩ := id h.heap
  obtain ⟨aq, ac, ea, -, -⟩ := own_slice hh.arrs
  refine ⟨Hp.usedS (Hp.absA As), .slice rq rn rn, av, ⟨rq, rn, rfl⟩, ⟨aq, _, ac, ea⟩, fun W b j v hv => ?_⟩
  have hM := h.next b
  have kk := fun {o : Nat} {u : Value} (q : w.cell? ⟨g, o, none⟩ = some u) => (b.cell (p := ⟨g, o, none⟩) (block_lt_of_cell q)).trans q
  match j, hv with
  | 0, hv => cases hv; exact hM.k0
  | 1, hv => cases hv; exact hM.k1
  | 2, hv => cases hv; exact hM.k2
  | 3, hv => cases hv; exact hM.k3
  | 4, hv => cases hv; exact hM.k4
  | 5, hv => cases hv; exact hM.k5
  | 6, hv => cases hv; exact hM.k6
  | 7, hv => cases hv; exact hM.k7
  | 8, hv => cases hv; exact kk hh.c0
  | 9, hv => cases hv; exact kk hh.c1
  | 10, hv => cases hv; exact kk hh.c2
  | 11, hv => cases hv; exact kk hh.c3
  | 12, hv => cases hv; exact hM.k12
  | 13, hv => cases hv; exact hM.k13
  | 14, hv => cases hv; exact hM.k14
  | 15, hv => cases hv; exact hM.k15
  | 16, hv => cases hv; exact hM.k16
  | n + 17, hv => cases hv
theorem rds_rowq {w : World} {Q : Nat → Prop} {q : Option Addr} {n cap : Nat} {xs : List Value} (h : RowQ w Q q n xs) : RdS w q n cap xs := by
  refine ⟨fun e => ?_, fun h0 => ?_⟩
  · rcases Nat.eq_zero_or_pos n with r | r
    · exact r
    · obtain ⟨g, o, e2, -⟩ := h r
      rw [e] at e2
      cases e2
  · obtain ⟨g, o, e, -, r⟩ := h h0
    exact ⟨g, o, e, r⟩
structure ClC (w W : World) (K K2 : Cg) (S : Ms) (fv h1 h2 h3 ov : Value) (E : Nat) : Prop where
  bl : Below w.heap.size w W
  tw : Full W w.heap.size 82 (twc K2 S fv (.int .i64 (K.lim : Int)) h1 h2 h3 ov)
  cq : CodeQ W (fun b => w.heap.size < b ∧ b < E) K2
  ko : KOk K2
  al : K2.c = K.c ∧ K2.inp = K.inp ∧ K2.dep = K.dep ∧ K2.lim = K.lim
  le : E ≤ W.heap.size
  lt : w.heap.size < E
theorem ClC.next {w W W' : World} {K K2 : Cg} {S : Ms} {fv h1 h2 h3 ov : Value} {E : Nat} (h : ClC w W K K2 S fv h1 h2 h3 ov E) (k : Below W.heap.size W W') : ClC w W' K K2 S fv h1 h2 h3 ov E := ⟨below2 h.bl k, h.tw.next k, h.cq.same (fun b hb => k.block b (h.cq.lt b hb)) k.size, h.ko, h.al, Nat.le_trans h.le k.size, h.lt⟩
theorem ClC.kept {w W W' : World} {K K2 : Cg} {S : Ms} {fv h1 h2 h3 ov : Value} {E gf : Nat} (h : ClC w W K K2 S fv h1 h2 h3 ov E) (k : Kp (fun b => b = gf) W W') (hE : E ≤ gf) : ClC w W' K K2 S fv h1 h2 h3 ov E := by
  have hlt := h.lt
  refine ⟨h.bl.trans (k.below (fun b hb => by have hb : b = gf := hb; omega) h.bl.size), (k.block _ h.tw.lt (fun e => by have e : w.heap.size = gf := e; omega)).trans h.tw, h.cq.same (fun b hb => k.block b (h.cq.lt b hb) (fun e => by have e : b = gf := e; have := hb.2; omega)) k.size, h.ko, h.al, Nat.le_trans h.le k.size, hlt⟩
theorem ClC.mk2 {w X w5 w6 : World} {K : Cg} {S : Ms} {fv h1 h2 h3 ov : Value} {q5 q6 q7 qn : Option Addr} {k5 k6 k7 kn : Nat} {D : Nat} (hK : KOk K) (bX : Below w.heap.size w X) (hXs : X.heap.size = w.heap.size + 1) (fX : Full X w.heap.size 82 (twc K S fv (.int .i64 (K.lim : Int)) h1 h2 h3 ov)) (hD : D = X.heap.size)
    (H5 : (∃ M, CdN w5 D q5 q6 q7 M K.c) ∧ Below X.heap.size X w5) (H6 : w6.ownsRow w5.heap.size 2 1 (.slice qn K.inp.length kn) K.inp.length (sv K.inp)) (B6 : Below w5.heap.size w5 w6) :
    ∃ K2, ClC w (w6.setCells w.heap.size 0 [.slice q5 K.c.ins.length k5, .slice q6 K.c.ens.length k6, .slice q7 K.c.txs.length k7, .int .i64 K.c.main, .slice qn K.inp.length kn]) K K2 S fv h1 h2 h3 ov w6.heap.size := by
  obtain ⟨⟨M, hM⟩, b5⟩ := H5
  subst hD
  have b6 := below2 b5 B6
  let K2 : Cg := ⟨K.c, q5, k5, q6, k6, q7, k7, M, K.inp, qn, kn, K.dep, K.lim⟩
  have hcq : CodeQ w6 (fun b => X.heap.size ≤ b ∧ b < w6.heap.size) K2 := CdN.codeQ (K := K2) (hM.next B6) H6 b5.size
  have hkp : Kp (fun b => b = w.heap.size) w6 (w6.setCells w.heap.size 0 [.slice q5 K.c.ins.length k5, .slice q6 K.c.ens.length k6, .slice q7 K.c.txs.length k7, .int .i64 K.c.main, .slice qn K.inp.length kn]) := Kp.setCells (F := fun b => b = w.heap.size) (.inl rfl) _ 0 (Kp.refl _ _)
  have hf6 := fX.next b6
  have hput := Full.put (g := w.heap.size) (t := 82) [.slice q5 K.c.ins.length k5, .slice q6 K.c.ens.length k6, .slice q7 K.c.txs.length k7, .int .i64 K.c.main, .slice qn K.inp.length kn] (a := []) (b := [.slice K.iq K.c.ins.length K.ia, .slice K.eq K.c.ens.length K.ea, .slice K.tq K.c.txs.length K.ta, .int .i64 K.c.main, .slice K.nq K.inp.length K.na]) (d := [.int .i64 K.dep, .int .i64 (K.lim : Int), fv, .int .i64 (K.lim : Int), h1, h2, h3, .int .i64 (S.rd : Int), ov, .int .i64 S.steps, .int .i64 S.ph, .int .i64 S.tr]) hf6 rfl
  refine ⟨K2, (below2 bX b6).trans (hkp.below (fun b hb => by have hb : b = w.heap.size := hb; omega) (below2 bX b6).size), hput, ?_, ⟨hK.c, hM.en, hK.inp, hK.i64, hK.d1, hK.d2, hK.lim⟩, ⟨rfl, rfl, rfl, rfl⟩, hkp.size, by have := b6.size; omega⟩
  have hs := hcq.same (w' := w6.setCells w.heap.size 0 [.slice q5 K.c.ins.length k5, .slice q6 K.c.ens.length k6, .slice q7 K.c.txs.length k7, .int .i64 K.c.main, .slice qn K.inp.length kn]) (fun b hb => hkp.block b hb.2 (fun e => by have e : b = w.heap.size := e; have := hb.1; omega)) hkp.size
  have cv : ∀ {q : Option Addr} {n : Nat} {xs : List Value}, RowQ (w6.setCells w.heap.size 0 [.slice q5 K.c.ins.length k5, .slice q6 K.c.ens.length k6, .slice q7 K.c.txs.length k7, .int .i64 K.c.main, .slice qn K.inp.length kn]) (fun b => X.heap.size ≤ b ∧ b < w6.heap.size) q n xs → RowQ (w6.setCells w.heap.size 0 [.slice q5 K.c.ins.length k5, .slice q6 K.c.ens.length k6, .slice q7 K.c.txs.length k7, .int .i64 K.c.main, .slice qn K.inp.length kn]) (fun b => w.heap.size < b ∧ b < w6.heap.size) q n xs := fun hr h0 => by
    obtain ⟨g, o, e1, e2, e3⟩ := hr h0
    exact ⟨g, o, e1, ⟨by have := e2.1; omega, e2.2⟩, e3⟩
  exact ⟨hs.en, cv hs.ir, cv hs.er, cv hs.tr, fun x hx => cv (hs.sr x hx), cv hs.nr, fun b hb => Nat.lt_of_lt_of_le hb.2 hkp.size⟩
theorem rds_own {w : World} {e : TypeId} {sz n c : Nat} {q : Option Addr} {xs : List Value} (h : OwnR w e sz (.slice q n c) n xs) : RdS w q n c xs := by
  obtain ⟨q', c', e1, hc, hq⟩ := rown_slice h
  cases e1
  refine ⟨fun hn => ?_, fun h0 => ?_⟩
  · rcases Nat.eq_zero_or_pos n with r | r
    · exact r
    · obtain ⟨g, e2, -⟩ := hq r
      rw [hn] at e2
      cases e2
  · obtain ⟨g, rfl, r⟩ := hq h0
    exact ⟨g, 0, rfl, r⟩
theorem fmc_one {w : World} {L : List Fm} (h : ∀ m ∈ L, OwnR w 52 3 m.sv m.f.sl.length (vcs m.f.sl) ∧ OwnR w 52 3 m.tv m.f.st.length (vcs m.f.st)) : ∀ u ∈ L.flatMap fmc, u.oneCell' = true := fun u hu => by
  obtain ⟨m, hm, hx⟩ := List.mem_flatMap.1 hu
  obtain ⟨q1, c1, e1, -, -⟩ := rown_slice (h m hm).1
  obtain ⟨q2, c2, e2, -, -⟩ := rown_slice (h m hm).2
  unfold fmc at hx
  rw [e1, e2] at hx
  simp only [List.mem_cons, List.not_mem_nil, or_false] at hx
  rcases hx with rfl | rfl | rfl | rfl <;> rfl
end Go.Proofs.YtahdkffijlfmnaaGreatDoor
