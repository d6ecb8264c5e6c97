import Derived.Test.YtahdkffijlfmnaaGreatDoorF27
namespace Go.Proofs.YtahdkffijlfmnaaGreatDoor
open Go.RowKit
open Hp (V vc vcs)
theorem LiveW.depth {w w1 : World} {g : Nat} {K : Cg} {S : Ms} {L : List Fm} {fv ov : Value} {F Q : Nat → Prop} (h : LiveW w w1 g K S L fv ov F Q) :
    Calls Tryz.prog 10 #[.pointer (some ⟨g, 0, none⟩)] w1 fun z w' => z = .returned (.int .i64 (S.fs.length : Int)) ∧ Below w1.heap.size w1 w' := by
  obtain ⟨L1, fv1, ov1, F1, h1, -⟩ := h
  have k7 := h1.m.k7
  obtain ⟨fq, fcap, hfv, -, -⟩ := rown_slice h1.m.fr
  have hll : L1.length = S.fs.length := by rw [← h1.m.abs, List.length_map]
  rw [hfv, hll] at k7
  clear h1 hfv hll
  go_enter Tryz.func10, Tryz.ntmps10
  go_wp2
  go_ret
  exact ⟨rfl, Below.refl _ _⟩
theorem LiveW.steps {w w1 : World} {g : Nat} {K : Cg} {S : Ms} {L : List Fm} {fv ov : Value} {F Q : Nat → Prop} (h : LiveW w w1 g K S L fv ov F Q) :
    Calls Tryz.prog 18 #[.pointer (some ⟨g, 0, none⟩)] w1 fun z w' => z = .returned (.int .i64 S.steps) ∧ Below w1.heap.size w1 w' := by
  obtain ⟨L1, fv1, ov1, F1, h1, -⟩ := h
  have k14 := h1.m.k14
  clear h1
  go_enter Tryz.func18, Tryz.ntmps18
  go_wp2
  go_ret
  exact ⟨rfl, Below.refl _ _⟩
theorem few_any (n : Int) (w : World) :
    Calls Tryz.prog 11 #[.int .i64 n] w fun z w' => z = .returned (.int .i64 (if n < 0 then 0 else n % 5000)) ∧ Below w.heap.size w w' := by
  by_cases hn : n < 0
  · rw [if_pos hn]
    go_enter Tryz.func11, Tryz.ntmps11
    go_wp2
    go_ret
    exact ⟨rfl, Below.refl _ _⟩
  · rw [if_neg hn]
    have hn0 : 0 ≤ n := by omega
    have ht : n.tmod 5000 = n % 5000 := Int.tmod_eq_emod_of_nonneg hn0
    go_enter Tryz.func11, Tryz.ntmps11
    go_wp2
    go_ret
    exact ⟨rfl, Below.refl _ _⟩
theorem conv_rown {w : World} {v : Value} {n : Nat} {l : List UInt8} (h : OwnR w 5 1 v n (Hp.bv l)) : (convert 80 9 v).run Tryz.prog w = .ok (.string ⟨l.toArray⟩) w := by
  rcases h with h | ⟨q, rfl, rfl, e⟩
  · exact Hp.conv_own h
  · have hl : l = [] := by
      have := congrArg List.length e
      rw [Hp.bv_len] at this
      exact List.eq_nil_of_length_eq_zero this
    subst hl
    cases q with
    | none => exact run_convert_bytes_nil w 80 5 Tryz.underlying80 Tryz.underlying5 0 0 9 Tryz.underlying9
    | some a => exact run_convert_bytes_back (P := Tryz.prog) w 80 9 5 a 0 [] Tryz.underlying80 Tryz.underlying5 Tryz.underlying9 (fun j hj => absurd hj (by simp))
/-- What Result tells. -/
def runV (S : Ms) (a : Value) : Value := .agg #[.int .i64 S.ph, .int .i64 S.tr, .string ⟨S.out.toArray⟩, .int .i64 (S.rd : Int), .int .i64 S.steps, .slice none 0 0, a]
theorem MachM.arrs {w : World} {g : Nat} {K : Cg} {S : Ms} {L : List Fm} {fv ov : Value} {F Q : Nat → Prop} (h : MachM w g K S L fv ov F Q) :
    Calls Tryz.prog 27 #[.pointer (some ⟨g, 8, none⟩)] w fun e w' => e = .returned (.slice (some ⟨w.heap.size, 0, none⟩) (S.hp.length + 1) (S.hp.length + 1)) ∧ Hid (∃ vs, Hp.Ans w' w.heap.size (Hp.lsA S.hp) (.slice (some ⟨w.heap.size, 0, none⟩) (S.hp.length + 1) (S.hp.length + 1)) vs) ∧ Below w.heap.size w w' := by
  have q := Hp.arrays_any h.heap
  exact q
theorem MachM.conv {w : World} {g : Nat} {K : Cg} {S : Ms} {L : List Fm} {fv : Value} {oq : Option Addr} {n c : Nat} {F Q : Nat → Prop} (h : MachM w g K S L fv (.slice oq n c) F Q) :
    (convert 80 9 (.slice oq n c)).run Tryz.prog w = .ok (.string ⟨S.out.toArray⟩) w := conv_rown h.out
theorem ret_res {w : World} {B : Nat} {t : TypeId} {a b c d e f h : Value} {tm : Array Value} (hF : Full w B t [a, b, c, d, e, f, h]) (h2 : tm[2]?.getD undef = .pointer (some ⟨B, 0, none⟩)) :
    (results Tryz.f9 tm).run Tryz.prog w = .ok (.agg #[a, b, c, d, e, f, h]) w := by
  simp [results, Tryz.results9, go_sem, h2, (hF.cell 0 a rfl).1, (hF.cell 1 b rfl).1, (hF.cell 2 c rfl).1, (hF.cell 3 d rfl).1, (hF.cell 4 e rfl).1, (hF.cell 5 f rfl).1, (hF.cell 6 h rfl).1]
set_option maxRecDepth 100000 in
set_option maxHeartbeats 2000000 in
theorem LiveW.result {w w1 : World} {g : Nat} {K : Cg} {S : Ms} {L : List Fm} {fv ov : Value} {F Q : Nat → Prop} (h : LiveW w w1 g K S L fv ov F Q) :
    Calls Tryz.prog 9 #[.pointer (some ⟨g, 0, none⟩)] w1 fun z w' => z = .returned (runV S (.slice (some ⟨w1.heap.size + 1, 0, none⟩) (S.hp.length + 1) (S.hp.length + 1))) ∧ Hid (∃ vs, Hp.Ans w' (w1.heap.size + 1) (Hp.lsA S.hp) (.slice (some ⟨w1.heap.size + 1, 0, none⟩) (S.hp.length + 1) (S.hp.length + 1)) vs) ∧ Below w1.heap.size w1 w' := by
  obtain ⟨L1, fv1, ov1, F1, h1, -⟩ := h
  have HM : Hid (∀ W, Below w1.heap.size w1 W → MachM W g K S L1 fv1 ov1 F1 Q) := fun W b => h1.m.next b
  obtain ⟨oq, ocap, hov, -, -⟩ := rown_slice h1.m.out
  subst hov
  have HS : Hid (∀ w', Below w1.heap.size w1 w' → w'.cell? ⟨g, 12, none⟩ = some (.int .i64 (S.rd : Int)) ∧ w'.cell? ⟨g, 13, none⟩ = some (.slice oq S.out.length ocap) ∧ w'.cell? ⟨g, 14, none⟩ = some (.int .i64 S.steps) ∧ w'.cell? ⟨g, 15, none⟩ = some (.int .i64 S.ph) ∧ w'.cell? ⟨g, 16, none⟩ = some (.int .i64 S.tr) ∧ (convert 80 9 (.slice oq S.out.length ocap)).run Tryz.prog w' = .ok (.string ⟨S.out.toArray⟩) w' ∧ Below w1.heap.size w1 w') := fun w' b => ⟨(HM.out w' b).k12, (HM.out w' b).k13, (HM.out w' b).k14, (HM.out w' b).k15, (HM.out w' b).k16, (HM.out w' b).conv, b⟩
  clear h1
  unfold runV
  obtain ⟨ga, hga⟩ : ∃ ga, w1.heap.size + 1 = ga := ⟨_, rfl⟩
  rw [hga]
  obtain ⟨X, hX⟩ : ∃ X, w1.alloc (.cells #[.int .i64 0, .int .i64 0, .string Hp.e0, .int .i64 0, .int .i64 0, .slice none 0 0, .slice none 0 0] 46) = X := ⟨_, rfl⟩
  have bX : Below w1.heap.size w1 X := by rw [← hX]; exact (Below.refl _ w1).alloc (Nat.le_refl _) _
  have fX : Full X w1.heap.size 46 [.int .i64 0, .int .i64 0, .string Hp.e0, .int .i64 0, .int .i64 0, .slice none 0 0, .slice none 0 0] := by rw [← hX]; exact Full.new w1 _ _
  have hXs : X.drew.heap.size = ga := by rw [← hX, ← hga]; simp
  have d1 : Calls Tryz.prog 27 #[.pointer (some ⟨g, 8, none⟩)] X.drew fun z w'' => z = .returned (.slice (some ⟨ga, 0, none⟩) (S.hp.length + 1) (S.hp.length + 1)) ∧ Hid ((∃ vs, Hp.Ans w'' ga (Hp.lsA S.hp) (.slice (some ⟨ga, 0, none⟩) (S.hp.length + 1) (S.hp.length + 1)) vs) ∧ Below w1.heap.size w1 w'' ∧ Full w'' w1.heap.size 46 [.int .i64 0, .int .i64 0, .string Hp.e0, .int .i64 0, .int .i64 0, .slice none 0 0, .slice none 0 0]) := by
    have q := (HM.out _ bX.drew).arrs
    rw [hXs] at q
    refine q.mono fun z w'' q => ⟨q.1, q.2.1.out, below2 bX.drew (by rw [hXs]; exact q.2.2), (fX.next (Below.refl _ X).drew).next (by rw [hXs]; exact q.2.2)⟩
  have HF : Hid (∀ w'', (∃ vs, Hp.Ans w'' ga (Hp.lsA S.hp) (.slice (some ⟨ga, 0, none⟩) (S.hp.length + 1) (S.hp.length + 1)) vs) → Full w'' w1.heap.size 46 [.int .i64 0, .int .i64 0, .string Hp.e0, .int .i64 0, .int .i64 0, .slice none 0 0, .slice none 0 0] → Below w1.heap.size w1 w'' → (∃ vs, Hp.Ans (((((((w''.setCell ⟨w1.heap.size, 0, none⟩ (.int .i64 S.ph)).setCell ⟨w1.heap.size, 1, none⟩ (.int .i64 S.tr)).setCell ⟨w1.heap.size, 2, none⟩ (.string ⟨S.out.toArray⟩)).setCell ⟨w1.heap.size, 3, none⟩ (.int .i64 (S.rd : Int))).setCell ⟨w1.heap.size, 4, none⟩ (.int .i64 S.steps)).setCell ⟨w1.heap.size, 5, none⟩ (.slice none 0 0)).setCell ⟨w1.heap.size, 6, none⟩ (.slice (some ⟨ga, 0, none⟩) (S.hp.length + 1) (S.hp.length + 1))) ga (Hp.lsA S.hp) (.slice (some ⟨ga, 0, none⟩) (S.hp.length + 1) (S.hp.length + 1)) vs) ∧ Full (((((((w''.setCell ⟨w1.heap.size, 0, none⟩ (.int .i64 S.ph)).setCell ⟨w1.heap.size, 1, none⟩ (.int .i64 S.tr)).setCell ⟨w1.heap.size, 2, none⟩ (.string ⟨S.out.toArray⟩)).setCell ⟨w1.heap.size, 3, none⟩ (.int .i64 (S.rd : Int))).setCell ⟨w1.heap.size, 4, none⟩ (.int .i64 S.steps)).setCell ⟨w1.heap.size, 5, none⟩ (.slice none 0 0)).setCell ⟨w1.heap.size, 6, none⟩ (.slice (some ⟨ga, 0, none⟩) (S.hp.length + 1) (S.hp.length + 1))) w1.heap.size 46 [.int .i64 S.ph, .int .i64 S.tr, .string ⟨S.out.toArray⟩, .int .i64 (S.rd : Int), .int .i64 S.steps, .slice none 0 0, (.slice (some ⟨ga, 0, none⟩) (S.hp.length + 1) (S.hp.length + 1))] ∧ Below w1.heap.size w1 (((((((w''.setCell ⟨w1.heap.size, 0, none⟩ (.int .i64 S.ph)).setCell ⟨w1.heap.size, 1, none⟩ (.int .i64 S.tr)).setCell ⟨w1.heap.size, 2, none⟩ (.string ⟨S.out.toArray⟩)).setCell ⟨w1.heap.size, 3, none⟩ (.int .i64 (S.rd : Int))).setCell ⟨w1.heap.size, 4, none⟩ (.int .i64 S.steps)).setCell ⟨w1.heap.size, 5, none⟩ (.slice none 0 0)).setCell ⟨w1.heap.size, 6, none⟩ (.slice (some ⟨ga, 0, none⟩) (S.hp.length + 1) (S.hp.length + 1)))) := fun w'' a f b => ⟨by
    obtain ⟨vs, a⟩ := a
    have hkp : Kp (fun x => x = w1.heap.size) w'' (((((((w''.setCell ⟨w1.heap.size, 0, none⟩ (.int .i64 S.ph)).setCell ⟨w1.heap.size, 1, none⟩ (.int .i64 S.tr)).setCell ⟨w1.heap.size, 2, none⟩ (.string ⟨S.out.toArray⟩)).setCell ⟨w1.heap.size, 3, none⟩ (.int .i64 (S.rd : Int))).setCell ⟨w1.heap.size, 4, none⟩ (.int .i64 S.steps)).setCell ⟨w1.heap.size, 5, none⟩ (.slice none 0 0)).setCell ⟨w1.heap.size, 6, none⟩ (.slice (some ⟨ga, 0, none⟩) (S.hp.length + 1) (S.hp.length + 1))) := Kp.setCells (F := fun x => x = w1.heap.size) (B := w1.heap.size) (.inl rfl) [.int .i64 S.ph, .int .i64 S.tr, .string ⟨S.out.toArray⟩, .int .i64 (S.rd : Int), .int .i64 S.steps, .slice none 0 0, (.slice (some ⟨ga, 0, none⟩) (S.hp.length + 1) (S.hp.length + 1))] 0 (Kp.refl _ w'')
    exact ⟨vs, a.same fun k hk hl => hkp.block k hl (by show ¬ k = w1.heap.size; omega)⟩, Full.put (g := w1.heap.size) (t := 46) [.int .i64 S.ph, .int .i64 S.tr, .string ⟨S.out.toArray⟩, .int .i64 (S.rd : Int), .int .i64 S.steps, .slice none 0 0, (.slice (some ⟨ga, 0, none⟩) (S.hp.length + 1) (S.hp.length + 1))] (a := []) (b := [.int .i64 0, .int .i64 0, .string Hp.e0, .int .i64 0, .int .i64 0, .slice none 0 0, .slice none 0 0]) (d := []) f rfl, (((((((b.setCell (p := ⟨w1.heap.size, 0, none⟩) (Nat.le_refl _) _).setCell (p := ⟨w1.heap.size, 1, none⟩) (Nat.le_refl _) _).setCell (p := ⟨w1.heap.size, 2, none⟩) (Nat.le_refl _) _).setCell (p := ⟨w1.heap.size, 3, none⟩) (Nat.le_refl _) _).setCell (p := ⟨w1.heap.size, 4, none⟩) (Nat.le_refl _) _).setCell (p := ⟨w1.heap.size, 5, none⟩) (Nat.le_refl _) _).setCell (p := ⟨w1.heap.size, 6, none⟩) (Nat.le_refl _) _)⟩
  have bD : Below w1.heap.size w1 X.drew := bX.drew
  clear bX fX hXs
  go_enter Tryz.func9, Tryz.ntmps9
  go_upto_region 1 with fail
  go_region_held3 (fun w' => w'.cell? ⟨g, 12, none⟩ = some (.int .i64 (S.rd : Int)) ∧ w'.cell? ⟨g, 13, none⟩ = some (.slice oq S.out.length ocap) ∧ w'.cell? ⟨g, 14, none⟩ = some (.int .i64 S.steps) ∧ w'.cell? ⟨g, 15, none⟩ = some (.int .i64 S.ph) ∧ w'.cell? ⟨g, 16, none⟩ = some (.int .i64 S.tr) ∧ (convert 80 9 (.slice oq S.out.length ocap)).run Tryz.prog w' = .ok (.string ⟨S.out.toArray⟩) w' ∧ Below w1.heap.size w1 w') (exact HS.out _ (by first | with_reducible assumption | with_reducible exact hb9.1 | with_reducible exact hb9.2))
    (first
    | (go_at_call 27; (with_reducible refine d1.mono ?_); rintro z9 w9 ⟨rfl, hq9⟩; obtain ⟨ha8, hb8, hf8⟩ := hq9.out; obtain ⟨ha9, hf9, hb9⟩ := HF.out _ ha8 hf8 hb8; obtain ⟨t0, g0⟩ := hf8.cell 0 _ rfl; obtain ⟨t1, g1⟩ := hf8.cell 1 _ rfl; obtain ⟨t2, g2⟩ := hf8.cell 2 _ rfl; obtain ⟨t3, g3⟩ := hf8.cell 3 _ rfl; obtain ⟨t4, g4⟩ := hf8.cell 4 _ rfl; obtain ⟨t5, g5⟩ := hf8.cell 5 _ rfl; obtain ⟨t6, g6⟩ := hf8.cell 6 _ rfl)
    | fail)
  go_wp2
  exact bodyPost_ret (ret_res hf9 rfl) rfl ⟨rfl, ha9, hb9⟩
end Go.Proofs.YtahdkffijlfmnaaGreatDoor

namespace Go.Proofs.YtahdkffijlfmnaaGreatDoor
open Go.RowKit
open Hp (V vc vcs)
/-- How many cells arrays take. -/
def celS : List (List V) → Nat
  | [] => 0
  | _ :: r => (r.map fun l => l.length + 1).sum
theorem celS_take {a : List V} {r : List (List V)} (n : Nat) (hn : n < r.length) : celS ((a :: r).take (n + 2)) = celS ((a :: r).take (n + 1)) + (r[n].length + 1) := by
  show ((r.take (n + 1)).map fun l => l.length + 1).sum = ((r.take n).map fun l => l.length + 1).sum + (r[n].length + 1)
  rw [List.take_succ_eq_append_getElem hn, List.map_append, List.sum_append]
  simp
theorem celS_step {Ls : List (List V)} {n : Nat} (h1 : 1 ≤ n) (hn : n < Ls.length) : celS (Ls.take (n + 1)) = celS (Ls.take n) + (Ls[n].length + 1) := by
  match Ls, n with
  | a :: r, k + 1 => exact celS_take k (by simpa using hn)
theorem celS_le {Ls : List (List V)} (hel : ∀ L ∈ Ls, L.length ≤ 100000) (n : Nat) : celS (Ls.take n) ≤ n * 100001 := by
  match Ls with
  | [] => simp [celS]
  | a :: r =>
    match n with
    | 0 => simp [celS]
    | n + 1 =>
      show ((r.take n).map fun l => l.length + 1).sum ≤ _
      have : ∀ (r : List (List V)) (n : Nat), (∀ L ∈ r, L.length ≤ 100000) → ((r.take n).map fun l => l.length + 1).sum ≤ n * 100001 := by
        intro r
        induction r with
        | nil => intro n _; simp
        | cons x r ih =>
          intro n hx
          match n with
          | 0 => simp
          | n + 1 =>
            have h1 := ih n fun L hL => hx L (List.mem_cons_of_mem _ hL)
            have h2 := hx x List.mem_cons_self
            simp only [List.take_succ_cons, List.map_cons, List.sum_cons]
            omega
      exact Nat.le_trans (this r n fun L hL => hel L (List.mem_cons_of_mem _ hL)) (Nat.mul_le_mul_right _ (Nat.le_succ n))
set_option maxRecDepth 100000 in
set_option maxHeartbeats 1000000 in
theorem cells_any {w : World} {g c : Nat} {Ls : List (List V)} (h1 : Hp.ListsAt w g Ls) (hl : Ls.length ≤ 100001) (h0 : 0 < Ls.length) (hel : ∀ L ∈ Ls, L.length ≤ 100000) :
    Calls Tryz.prog 32 #[.slice (some ⟨g, 0, none⟩) Ls.length c] w fun e w' => e = .returned (.int .i64 (celS Ls : Int)) ∧ Below w.heap.size w w' := by
  have H1 : Hid (∀ Y, Below w.heap.size w Y → ∀ n (hn : n < Ls.length), ∃ q c, Y.cell? ⟨g, n, none⟩ = some (.slice q Ls[n].length c)) := fun Y hY n hn => by
    obtain ⟨q, c, e, -⟩ := h1.get hY n hn
    exact ⟨q, c, e⟩
  have HC : Hid (∀ n, celS (Ls.take n) ≤ n * 100001) := celS_le hel
  clear h1
  go_enter Tryz.func32, Tryz.ntmps32
  go_wp2_with fail
  go_loopw [3, 4] (fun b v wr => ∃ n : Nat, 1 ≤ n ∧ n ≤ Ls.length ∧ v = .int .i64 (n : Int) ∧ b = .int .i64 (celS (Ls.take n) : Int) ∧ Hid (Below w.heap.size w wr)) (fun _ v _ => Ls.length - (intOf v).toNat)
  case atStart =>
    refine ⟨1, Nat.le_refl _, h0, rfl, ?_, Below.refl _ _⟩
    match Ls, h0 with
    | a :: r, _ => rfl
  case round =>
    obtain ⟨n, hn1, hn, rfl, rfl, hB⟩ := hrel
    by_cases hlt : n < Ls.length
    case neg =>
      obtain rfl : n = Ls.length := by omega
      rw [List.take_length]
      go_wp2
      first | (change bodyPost Tryz.prog Tryz.f32 _ Exit.ret _ _) | (simp only [Exit.noGoto])
      go_ret
      exact ⟨rfl, hB.out⟩
    have n0 : (0 : Int) ≤ (n : Int) := Int.natCast_nonneg _
    have n1 : (n : Int) < (Ls.length : Int) := Int.ofNat_lt.2 hlt
    have hst : Hid (celS (Ls.take (n + 1)) = celS (Ls.take n) + (Ls[n].length + 1)) := celS_step hn1 hlt
    have hc1 := HC.out (n + 1)
    obtain ⟨q, cc, y1⟩ := H1.out wr hB.out n hlt
    have hw1 : IntKind.i64.wrap ((celS (Ls.take n) : Int) + (Ls[n].length : Int)) = (celS (Ls.take n) : Int) + (Ls[n].length : Int) := by have := hst.out; rw [IntKind.wrap_i64]; omega
    have hw2 : IntKind.i64.wrap ((celS (Ls.take n) : Int) + (Ls[n].length : Int) + 1) = (celS (Ls.take n) : Int) + (Ls[n].length : Int) + 1 := by have := hst.out; rw [IntKind.wrap_i64]; omega
    clear hc1 HC
    go_wp2
    refine ⟨⟨n + 1, by omega, hlt, by simp, by rw [hst.out]; push_cast; rw [Int.add_assoc], hB⟩, ?_⟩
    show Ls.length - ((n : Int) + 1).toNat < Ls.length - ((n : Int)).toNat
    omega
set_option maxRecDepth 100000 in
set_option maxHeartbeats 1000000 in
theorem grown_any {w : World} {g1 g2 c1 c2 : Nat} {A B : List (List V)} (h1 : Hp.ListsAt w g1 A) (h2 : Hp.ListsAt w g2 B) (hab : A.length ≤ B.length) (he : ∀ n (h1 : n < A.length) (h2 : n < B.length), A[n].length = B[n].length) (hl : B.length ≤ 100001) :
    Calls Tryz.prog 31 #[.slice (some ⟨g1, 0, none⟩) A.length c1, .slice (some ⟨g2, 0, none⟩) B.length c2] w fun e w' => e = .returned (.bool true) ∧ Below w.heap.size w w' := by
  have H1 : Hid (∀ Y, Below w.heap.size w Y → ∀ n, n < A.length → ∃ q c q' c' l, Y.cell? ⟨g1, n, none⟩ = some (.slice q l c) ∧ Y.cell? ⟨g2, n, none⟩ = some (.slice q' l c')) := fun Y hY n hn => by
    obtain ⟨q, c, e, -⟩ := h1.get hY n hn
    obtain ⟨q', c', e', -⟩ := h2.get hY n (by omega)
    rw [← he n hn (by omega)] at e'
    exact ⟨q, c, q', c', _, e, e'⟩
  have hlt0 : ¬ ((B.length : Int) < (A.length : Int)) := by omega
  have HAB : Hid (A.length ≤ B.length) := hab
  clear h1 h2 he hab
  go_enter Tryz.func31, Tryz.ntmps31
  go_wp2_with fail
  go_loopw [5] (fun v wr => ∃ n : Nat, n ≤ A.length ∧ v = .int .i64 (n : Int) ∧ Hid (Below w.heap.size w wr)) (fun v _ => A.length - (intOf v).toNat)
  case atStart => exact ⟨0, Nat.zero_le _, rfl, Below.refl _ _⟩
  case round =>
    obtain ⟨n, hn, rfl, hB⟩ := hrel
    by_cases hlt : n < A.length
    case neg =>
      obtain rfl : n = A.length := by omega
      go_wp2
      first | (change bodyPost Tryz.prog Tryz.f31 _ Exit.ret _ _) | (simp only [Exit.noGoto])
      go_ret
      exact ⟨rfl, hB.out⟩
    have n0 : (0 : Int) ≤ (n : Int) := Int.natCast_nonneg _
    have n1 : (n : Int) < (A.length : Int) := Int.ofNat_lt.2 hlt
    have n2 : (n : Int) < (B.length : Int) := by have := HAB.out; omega
    obtain ⟨q, c, q', c', l, y1, y2⟩ := H1.out wr hB.out n hlt
    have nl : ((l : Int) != (l : Int)) = false := by simp
    have z1 := cell_regrown y1
    have z2 := cell_regrown y2
    go_wp2_with fail
    refine wp_region_quiet_below (by kernel_rfl) (by kernel_rfl) ?_
    repeat (first | go_big_quiet_step (first | fail) | quiet_step (first | fail))
    refine wpQuiet_nil ?_
    intro _ hw'
    obtain ⟨⟨dq, osq⟩, hw''⟩ := hw'
    subst hw''
    have hY := below_regrown wr dq osq
    first | (change Exit.then _ _ Exit.normal _ (Sort.grow (redrawn wr dq) osq)) | skip
    generalize Sort.grow (redrawn wr dq) osq = Y at hY ⊢
    have HBY : Hid (Below w.heap.size w Y) := below2 hB.out hY
    clear hY y1 y2 z1 z2
    go_wp2
    refine ⟨⟨n + 1, hlt, by simp, HBY⟩, ?_⟩
    show A.length - ((n : Int) + 1).toNat < A.length - ((n : Int)).toNat
    omega
end Go.Proofs.YtahdkffijlfmnaaGreatDoor

namespace Go.Proofs.YtahdkffijlfmnaaGreatDoor
open Go.RowKit
open Hp (V vc vcs)
set_option maxRecDepth 100000 in
set_option maxHeartbeats 1000000 in
theorem sameRun_any {w : World} {S : Ms} {g1 g2 c1 c2 : Nat} {Ls : List (List V)} (h1 : Hp.ListsAt w g1 Ls) (h2 : Hp.ListsAt w g2 Ls) (hl : Ls.length ≤ 100001) (hel : ∀ L ∈ Ls, L.length ≤ 100000) :
    Calls Tryz.prog 13 #[runV S (.slice (some ⟨g1, 0, none⟩) Ls.length c1), runV S (.slice (some ⟨g2, 0, none⟩) Ls.length c2)] w fun e w' => e = .returned (.bool true) ∧ Below w.heap.size w w' := by
  have HS : Hid (∀ Y, Below w.heap.size w Y → Calls Tryz.prog 30 #[.slice (some ⟨g1, 0, none⟩) Ls.length c1, .slice (some ⟨g2, 0, none⟩) Ls.length c2] Y fun e w' => e = .returned (.bool true) ∧ Below Y.heap.size Y w') := fun Y hY => by
    have k : ∀ {g}, Hp.ListsAt w g Ls → Hp.ListsAt Y g Ls := fun {g} h n hn => by
      obtain ⟨q, c, e, r⟩ := h n hn
      refine ⟨q, c, (hY.cell (p := ⟨g, n, none⟩) (block_lt_of_cell e)).trans e, fun h0 => ?_⟩
      obtain ⟨b, e1, e2⟩ := r h0
      exact ⟨b, e1, fun j v hv => (hY.cell (p := ⟨b, 0 + j, none⟩) (block_lt_of_cell (e2 j v hv))).trans (e2 j v hv)⟩
    exact Hp.same_any (k h1) (k h2) hl hel
  clear h1 h2 hl hel
  unfold runV
  have bX : Below w.heap.size w ((w.alloc (.cells #[.int .i64 S.ph, .int .i64 S.tr, .string ⟨S.out.toArray⟩, .int .i64 (S.rd : Int), .int .i64 S.steps, .slice none 0 0, .slice (some ⟨g1, 0, none⟩) Ls.length c1] 46)).alloc (.cells #[.int .i64 S.ph, .int .i64 S.tr, .string ⟨S.out.toArray⟩, .int .i64 (S.rd : Int), .int .i64 S.steps, .slice none 0 0, .slice (some ⟨g2, 0, none⟩) Ls.length c2] 46)) := ((Below.refl _ w).alloc (Nat.le_refl _) _).alloc (by simp) _
  have fA : Full ((w.alloc (.cells #[.int .i64 S.ph, .int .i64 S.tr, .string ⟨S.out.toArray⟩, .int .i64 (S.rd : Int), .int .i64 S.steps, .slice none 0 0, .slice (some ⟨g1, 0, none⟩) Ls.length c1] 46)).alloc (.cells #[.int .i64 S.ph, .int .i64 S.tr, .string ⟨S.out.toArray⟩, .int .i64 (S.rd : Int), .int .i64 S.steps, .slice none 0 0, .slice (some ⟨g2, 0, none⟩) Ls.length c2] 46)) w.heap.size 46 [.int .i64 S.ph, .int .i64 S.tr, .string ⟨S.out.toArray⟩, .int .i64 (S.rd : Int), .int .i64 S.steps, .slice none 0 0, .slice (some ⟨g1, 0, none⟩) Ls.length c1] := (Full.new w #[.int .i64 S.ph, .int .i64 S.tr, .string ⟨S.out.toArray⟩, .int .i64 (S.rd : Int), .int .i64 S.steps, .slice none 0 0, .slice (some ⟨g1, 0, none⟩) Ls.length c1] 46).next ((Below.refl _ (w.alloc (.cells #[.int .i64 S.ph, .int .i64 S.tr, .string ⟨S.out.toArray⟩, .int .i64 (S.rd : Int), .int .i64 S.steps, .slice none 0 0, .slice (some ⟨g1, 0, none⟩) Ls.length c1] 46))).alloc (Nat.le_refl _) _)
  have fB : Full ((w.alloc (.cells #[.int .i64 S.ph, .int .i64 S.tr, .string ⟨S.out.toArray⟩, .int .i64 (S.rd : Int), .int .i64 S.steps, .slice none 0 0, .slice (some ⟨g1, 0, none⟩) Ls.length c1] 46)).alloc (.cells #[.int .i64 S.ph, .int .i64 S.tr, .string ⟨S.out.toArray⟩, .int .i64 (S.rd : Int), .int .i64 S.steps, .slice none 0 0, .slice (some ⟨g2, 0, none⟩) Ls.length c2] 46)) (w.alloc (.cells #[.int .i64 S.ph, .int .i64 S.tr, .string ⟨S.out.toArray⟩, .int .i64 (S.rd : Int), .int .i64 S.steps, .slice none 0 0, .slice (some ⟨g1, 0, none⟩) Ls.length c1] 46)).heap.size 46 [.int .i64 S.ph, .int .i64 S.tr, .string ⟨S.out.toArray⟩, .int .i64 (S.rd : Int), .int .i64 S.steps, .slice none 0 0, .slice (some ⟨g2, 0, none⟩) Ls.length c2] := Full.new (w.alloc (.cells #[.int .i64 S.ph, .int .i64 S.tr, .string ⟨S.out.toArray⟩, .int .i64 (S.rd : Int), .int .i64 S.steps, .slice none 0 0, .slice (some ⟨g1, 0, none⟩) Ls.length c1] 46)) #[.int .i64 S.ph, .int .i64 S.tr, .string ⟨S.out.toArray⟩, .int .i64 (S.rd : Int), .int .i64 S.steps, .slice none 0 0, .slice (some ⟨g2, 0, none⟩) Ls.length c2] 46
  have hz : (w.alloc (.cells #[.int .i64 S.ph, .int .i64 S.tr, .string ⟨S.out.toArray⟩, .int .i64 (S.rd : Int), .int .i64 S.steps, .slice none 0 0, .slice (some ⟨g1, 0, none⟩) Ls.length c1] 46)).heap.size = w.heap.size + 1 := by simp
  rw [hz] at fB
  have a0 := (fA.cell 0 _ rfl).1
  have a1 := (fA.cell 1 _ rfl).1
  have a2 := (fA.cell 2 _ rfl).1
  have a3 := (fA.cell 3 _ rfl).1
  have a4 := (fA.cell 4 _ rfl).1
  have a5 := (fA.cell 5 _ rfl).1
  have a6 := (fA.cell 6 _ rfl).1
  have b0 := (fB.cell 0 _ rfl).1
  have b1 := (fB.cell 1 _ rfl).1
  have b2 := (fB.cell 2 _ rfl).1
  have b3 := (fB.cell 3 _ rfl).1
  have b4 := (fB.cell 4 _ rfl).1
  have b5 := (fB.cell 5 _ rfl).1
  have b6 := (fB.cell 6 _ rfl).1
  have HBX : Hid (Below w.heap.size w ((w.alloc (.cells #[.int .i64 S.ph, .int .i64 S.tr, .string ⟨S.out.toArray⟩, .int .i64 (S.rd : Int), .int .i64 S.steps, .slice none 0 0, .slice (some ⟨g1, 0, none⟩) Ls.length c1] 46)).alloc (.cells #[.int .i64 S.ph, .int .i64 S.tr, .string ⟨S.out.toArray⟩, .int .i64 (S.rd : Int), .int .i64 S.steps, .slice none 0 0, .slice (some ⟨g2, 0, none⟩) Ls.length c2] 46))) := bX
  clear fA fB bX hz
  go_enter Tryz.func13, Tryz.ntmps13
  go_wp2_with (first
    | (go_at_call 30; refine (HS.out _ HBX.out).mono ?_; rintro z1 w1 ⟨rfl, hb1⟩)
    | fail)
  go_ret
  exact ⟨rfl, below2 HBX.out hb1⟩
end Go.Proofs.YtahdkffijlfmnaaGreatDoor

namespace Go.Proofs.YtahdkffijlfmnaaGreatDoor
open Go.RowKit
open Hp (V vc vcs)
theorem plain_yd {R : Except Int Ms} {r : Ms × Yd} (h : plainYd R = .ok r) : r.2 = yd0 := by
  cases R with
  | error t => cases h
  | ok S => cases h; rfl
theorem hook_of {o : Nat} {a b : Int} (ho : o = 21 ∨ o = 22 ∨ o = 23) (h : insS ((o : Int), a, b) = true) : 1 ≤ a := by
  unfold insS mayS at h
  rcases ho with rfl | rfl | rfl
  all_goals
    simp only [Bool.and_eq_true, decide_eq_true_eq] at h
    exact h.2.2.1.1
/-- Who yields does nothing else. -/
theorem op_yd {K : Cg} {S : Ms} {n : Nat} {f : Fr} {i : Nat} {hi : i < K.Es.length} {a b : Int} {o : Nat} {r : Ms × Yd} (hins : insS ((o : Int), a, b) = true) (e : opS K S n f i hi a b o = .ok r) : r.2 = yd0 ∨ (1 ≤ r.2.1 ∧ r.1 = S) := by
  unfold opS at e
  split at e
  case h_21 => cases e; exact .inr ⟨hook_of (.inl rfl) hins, rfl⟩
  case h_22 =>
    split at e
    · cases e; exact .inr ⟨hook_of (.inr (.inl rfl)) hins, rfl⟩
    · cases e
  case h_23 => cases e; exact .inr ⟨hook_of (.inr (.inr rfl)) hins, rfl⟩
  all_goals first | exact .inl (plain_yd e) | (cases e; exact .inl rfl)
theorem next_yd {K : Cg} {S : Ms} {r : Ms × Yd} (hK : KOk K) (h : StOk K S) (e : mnextS K S = .ok r) : r.2 = yd0 ∨ (1 ≤ r.2.1 ∧ r.1.ph = S.ph) := by
  obtain ⟨f, hi, a, b, o, hf, hfo, hins, hn, e⟩ := next_of hK h e
  rcases op_yd hins e with q | ⟨q1, q2⟩
  · exact .inl q
  · exact .inr ⟨q1, by rw [q2]; rfl⟩
theorem cel_used (A : Hp.Hp) : celS (Hp.lsA A) = Hp.usedS A := by
  show ((A.map (·.2)).map fun l => l.length + 1).sum = _
  induction A with
  | nil => rfl
  | cons x A ih => simp only [List.map_cons, List.sum_cons, ih, Hp.usedS]
theorem MachM.usedL {w : World} {g : Nat} {K : Cg} {S : Ms} {L : List Fm} {fv ov : Value} {F Q : Nat → Prop} (h : MachM w g K S L fv ov F Q) : Hp.usedS S.hp ≤ K.lim := by
  obtain ⟨As, rq, rn, rg, ro, av, e, hh⟩ := h.heap
  rw [← e]
  exact hh.le
/-- What may be said of a step. -/
structure Wt (K : Cg) (S S' : Ms) : Prop where
  st : S'.steps = S.steps + 1
  out : ∃ l, S'.out = S.out ++ l ∧ l.length ≤ 4200
  rd0 : S.rd ≤ S'.rd
  rd1 : S'.rd ≤ S.rd + 1
  rdK : S'.rd ≤ K.inp.length
  hp : ∃ l, lens S'.hp = lens S.hp ++ l
  f0 : S.fs.length ≤ S'.fs.length + 1
  f1 : S'.fs.length ≤ S.fs.length + 1
  fd : (S'.fs.length : Int) ≤ K.dep
  pe : S'.fs.length = 0 ↔ S'.ph = 1
  tr : S'.ph ≠ 2 → S'.tr = 0
  tp : S'.ph = 2 → S'.out = S.out ∧ S'.rd = S.rd ∧ S'.fs.length = S.fs.length ∧ S'.hp = S.hp ∧ S'.tr ≠ 0 ∧ (S'.tr = 5 → S'.rd = K.inp.length) ∧ (S'.tr = 3 → (S'.fs.length : Int) = K.dep)
theorem step_wt {K : Cg} {S : Ms} (hK : KOk K) (h : StOk K S) (hu : Hp.usedS S.hp ≤ 100000) (hp : S.ph = 0) (ht : S.tr = 0) (hf : S.fs ≠ []) (hs : S.steps + 1 ≤ 4611686018427387904) :
    Wt K S (mstepS K S).1 ∧ (((mstepS K S).2.2 = false ∧ (mstepS K S).2.1 = yd0) ∨ ((mstepS K S).2.2 = true ∧ 1 ≤ (mstepS K S).2.1.1 ∧ (mstepS K S).1.ph = 0)) := by
  obtain ⟨k1, k2⟩ := step_ok hK h hu
  have hs' : StOk K { S with steps := S.steps + 1 } := ⟨h.fr, h.hp, h.rd, h.dp, by show 0 ≤ S.steps + 1; have := h.s0; omega, hs⟩
  have hl : 0 < S.fs.length := List.length_pos_iff.2 hf
  rcases step_gw (K := K) hp hf hs with ⟨⟨y, e, hy⟩, g⟩ | ⟨t, e, hq⟩
  · have hph : (mstepS K S).1.ph ≠ 2 := by
      rcases g.ph with ⟨-, q⟩ | ⟨-, q⟩
      · rw [q]; decide
      · rw [q]; show S.ph ≠ 2; rw [hp]; decide
    refine ⟨⟨g.st, k2, g.rd0, g.rd1, k1.rd, g.hp, g.f0, g.f1, k1.dp, ⟨fun q => ?_, fun q => ?_⟩, fun _ => g.tr.trans ht, fun q => absurd q hph⟩, ?_⟩
    · rcases g.ph with ⟨-, r⟩ | ⟨r, -⟩
      · exact r
      · omega
    · rcases g.ph with ⟨r, -⟩ | ⟨-, r⟩
      · exact r
      · rw [r] at q; have : S.ph = 1 := q; omega
    · rw [hy]
      rcases next_yd hK hs' e with q | ⟨q1, q2⟩
      · have q : y = yd0 := q
        subst q
        exact .inl ⟨rfl, rfl⟩
      · have q1 : 1 ≤ y.1 := q1
        refine .inr ⟨?_, q1, q2.trans hp⟩
        show (y.1 != 0) = true
        rw [bne_iff_ne]
        omega
  · have q := next_er e
    rw [hq] at k1 ⊢
    refine ⟨⟨rfl, ⟨[], (List.append_nil _).symm, by simp⟩, Nat.le_refl _, Nat.le_succ _, k1.rd, ⟨[], (List.append_nil _).symm⟩, Nat.le_succ _, Nat.le_succ _, k1.dp, ⟨fun r => ?_, fun r => ?_⟩, fun r => absurd rfl r, fun _ => ⟨rfl, rfl, rfl, rfl, q.2.2, fun r => ?_, fun r => ?_⟩⟩, .inl ⟨rfl, rfl⟩⟩
    · have r : S.fs.length = 0 := r
      omega
    · have r : (2 : Int) = 1 := r
      omega
    · exact Nat.le_antisymm k1.rd (q.1 r)
    · have := q.2.1 r
      rw [← this]
      show (S.fs.length : Int) = ((S.fs.length - 1 + 1 : Nat) : Int)
      omega
end Go.Proofs.YtahdkffijlfmnaaGreatDoor

namespace Go.Proofs.YtahdkffijlfmnaaGreatDoor
open Go.RowKit
open Hp (V vc vcs)
theorem lists_next {w Y : World} {g : Nat} {Ls : List (List V)} (h : Hp.ListsAt w g Ls) (hY : Below w.heap.size w Y) : Hp.ListsAt Y g Ls := fun n hn => by
  obtain ⟨q, c, e, r⟩ := h n hn
  refine ⟨q, c, (hY.cell (p := ⟨g, n, none⟩) (block_lt_of_cell e)).trans e, fun h0 => ?_⟩
  obtain ⟨b, e1, e2⟩ := r h0
  exact ⟨b, e1, fun j v hv => (hY.cell (p := ⟨b, 0 + j, none⟩) (block_lt_of_cell (e2 j v hv))).trans (e2 j v hv)⟩
theorem lsA_el {A : Hp.Hp} (h : Hp.usedS A ≤ 100000) : ∀ L ∈ Hp.lsA A, L.length ≤ 100000 := fun L hL => by
  rcases List.mem_cons.1 hL with rfl | hL
  · exact Nat.zero_le _
  · obtain ⟨x, hx, rfl⟩ := List.mem_map.1 hL
    have := Hp.used_mem hx
    omega
theorem lsA_le {A : Hp.Hp} (h : Hp.usedS A ≤ 100000) : (Hp.lsA A).length ≤ 100001 := by
  have := Hp.used_ge A
  rw [Hp.lsA_len]
  omega
theorem lsA_grown {A B : Hp.Hp} {l : List Nat} (h : lens B = lens A ++ l) : (Hp.lsA A).length ≤ (Hp.lsA B).length ∧ ∀ n (h1 : n < (Hp.lsA A).length) (h2 : n < (Hp.lsA B).length), (Hp.lsA A)[n].length = (Hp.lsA B)[n].length := by
  have hlen : B.length = A.length + l.length := by
    have := congrArg List.length h
    simpa [lens] using this
  refine ⟨by rw [Hp.lsA_len, Hp.lsA_len]; omega, fun n h1 h2 => ?_⟩
  match n with
  | 0 => rfl
  | k + 1 =>
    rw [Hp.lsA_len] at h1
    have hA : k < A.length := by omega
    have hB : k < B.length := by omega
    have q : (lens B)[k]? = (lens A)[k]? := by rw [h, List.getElem?_append_left (by simpa [lens] using hA)]
    unfold lens at q
    rw [List.getElem?_map, List.getElem?_map, List.getElem?_eq_getElem hA, List.getElem?_eq_getElem hB] at q
    simp only [Option.map_some, Option.some.injEq] at q
    simp only [Hp.lsA, List.getElem_cons_succ, List.getElem_map]
    exact q.symm
theorem out_cut (a l : List UInt8) : (⟨(a ++ l).toArray⟩ : ByteArray).extract 0 (⟨a.toArray⟩ : ByteArray).size = ⟨a.toArray⟩ := by
  apply ByteArray.ext
  rw [ByteArray.data_extract]
  apply Array.ext'
  show ((a ++ l).toArray.extract 0 a.toArray.size).toList = a
  simp
def setV (iq eq tq nq : Option Addr) (i ia e ea t ta n na : Nat) (mn d l : Int) : Value := .agg #[.slice iq i ia, .slice eq e ea, .slice tq t ta, .int .i64 mn, .slice nq n na, .int .i64 d, .int .i64 l]
theorem went_cells {w : World} {iq eq tq nq : Option Addr} {i ia e ea t ta n na : Nat} {mn d l : Int} {r0 r1 r2 r3 r4 r5 r6 s0 s1 s2 s3 s4 s5 s6 : Value} (X : World) (hX : ((w.alloc (.cells #[.slice iq i ia, .slice eq e ea, .slice tq t ta, .int .i64 mn, .slice nq n na, .int .i64 d, .int .i64 l] 31)).alloc (.cells #[r0, r1, r2, r3, r4, r5, r6] 46)).alloc (.cells #[s0, s1, s2, s3, s4, s5, s6] 46) = X) :
    Below w.heap.size w X ∧ ∀ Y, Below X.heap.size X Y → Y.cell? ⟨w.heap.size, 4, none⟩ = some (.slice nq n na) ∧ Y.cell? ⟨w.heap.size, 5, none⟩ = some (.int .i64 d) ∧ Y.cell? ⟨w.heap.size, 6, none⟩ = some (.int .i64 l) ∧ Y.cell? ⟨w.heap.size + 1, 2, none⟩ = some r2 ∧ Y.cell? ⟨w.heap.size + 1, 3, none⟩ = some r3 ∧ Y.cell? ⟨w.heap.size + 1, 4, none⟩ = some r4 ∧ Y.cell? ⟨w.heap.size + 1, 6, none⟩ = some r6 ∧ Y.cell? ⟨w.heap.size + 1 + 1, 0, none⟩ = some s0 ∧ Y.cell? ⟨w.heap.size + 1 + 1, 1, none⟩ = some s1 ∧ Y.cell? ⟨w.heap.size + 1 + 1, 2, none⟩ = some s2 ∧ Y.cell? ⟨w.heap.size + 1 + 1, 3, none⟩ = some s3 ∧ Y.cell? ⟨w.heap.size + 1 + 1, 4, none⟩ = some s4 ∧ Y.cell? ⟨w.heap.size + 1 + 1, 6, none⟩ = some s6 := by
  obtain ⟨A, hA⟩ : ∃ A, w.alloc (.cells #[.slice iq i ia, .slice eq e ea, .slice tq t ta, .int .i64 mn, .slice nq n na, .int .i64 d, .int .i64 l] 31) = A := ⟨_, rfl⟩
  rw [hA] at hX
  obtain ⟨B, hB⟩ : ∃ B, A.alloc (.cells #[r0, r1, r2, r3, r4, r5, r6] 46) = B := ⟨_, rfl⟩
  rw [hB] at hX
  have zA : A.heap.size = w.heap.size + 1 := by rw [← hA]; simp
  have zB : B.heap.size = w.heap.size + 1 + 1 := by rw [← hB]; simp [zA]
  have fA : Full A w.heap.size 31 [.slice iq i ia, .slice eq e ea, .slice tq t ta, .int .i64 mn, .slice nq n na, .int .i64 d, .int .i64 l] := by rw [← hA]; exact Full.new w _ _
  have fB : Full B A.heap.size 46 [r0, r1, r2, r3, r4, r5, r6] := by rw [← hB]; exact Full.new A _ _
  have fX : Full X B.heap.size 46 [s0, s1, s2, s3, s4, s5, s6] := by rw [← hX]; exact Full.new B _ _
  have bA : Below w.heap.size w A := by rw [← hA]; exact (Below.refl _ w).alloc (Nat.le_refl _) _
  have bB : Below A.heap.size A B := by rw [← hB]; exact (Below.refl _ A).alloc (Nat.le_refl _) _
  have bX : Below B.heap.size B X := by rw [← hX]; exact (Below.refl _ B).alloc (Nat.le_refl _) _
  rw [zA] at fB
  rw [zB] at fX
  refine ⟨below2 (below2 bA bB) bX, fun Y hY => ?_⟩
  have fA3 := ((fA.next bB).next bX).next hY
  have fB3 := (fB.next bX).next hY
  have fX3 := fX.next hY
  exact ⟨(fA3.cell 4 _ rfl).1, (fA3.cell 5 _ rfl).1, (fA3.cell 6 _ rfl).1, (fB3.cell 2 _ rfl).1, (fB3.cell 3 _ rfl).1, (fB3.cell 4 _ rfl).1, (fB3.cell 6 _ rfl).1, (fX3.cell 0 _ rfl).1, (fX3.cell 1 _ rfl).1, (fX3.cell 2 _ rfl).1, (fX3.cell 3 _ rfl).1, (fX3.cell 4 _ rfl).1, (fX3.cell 6 _ rfl).1⟩
set_option maxRecDepth 100000 in
set_option maxHeartbeats 2000000 in
theorem went_any {w : World} {K : Cg} {S S' : Ms} (hw : Wt K S S') (hc : Hp.usedS S'.hp ≤ K.lim) (hcS : Hp.usedS S.hp ≤ K.lim) (hlim : K.lim ≤ 100000) (hinp : K.inp.length ≤ 1000) (hdep : K.dep ≤ 1000) (hs0 : 0 ≤ S.steps) (hs1 : S.steps ≤ 4611686018427387904) {g1 g2 c1 c2 : Nat} (h1 : Hp.ListsAt w g1 (Hp.lsA S.hp)) (h2 : Hp.ListsAt w g2 (Hp.lsA S'.hp)) (iq eq tq nq : Option Addr) (i ia e ea t ta na : Nat) (mn : Int) :
    Calls Tryz.prog 14 #[setV iq eq tq nq i ia e ea t ta K.inp.length na mn K.dep (K.lim : Int), runV S (.slice (some ⟨g1, 0, none⟩) (S.hp.length + 1) c1), runV S' (.slice (some ⟨g2, 0, none⟩) (S'.hp.length + 1) c2), .int .i64 (S.fs.length : Int), .int .i64 (S'.fs.length : Int)] w fun z w' => z = .returned (.bool true) ∧ Below w.heap.size w w' := by
  obtain ⟨lg, hlg⟩ := hw.hp
  obtain ⟨hab, hel⟩ := lsA_grown hlg
  rw [← Hp.lsA_len S.hp, ← Hp.lsA_len S'.hp]
  have HG : Hid (∀ Y, Below w.heap.size w Y → Calls Tryz.prog 31 #[.slice (some ⟨g1, 0, none⟩) (Hp.lsA S.hp).length c1, .slice (some ⟨g2, 0, none⟩) (Hp.lsA S'.hp).length c2] Y fun z w' => z = .returned (.bool true) ∧ Below Y.heap.size Y w') := fun Y hY => grown_any (lists_next h1 hY) (lists_next h2 hY) hab hel (lsA_le (by omega))
  have HC : Hid (∀ Y, Below w.heap.size w Y → Calls Tryz.prog 32 #[.slice (some ⟨g2, 0, none⟩) (Hp.lsA S'.hp).length c2] Y fun z w' => z = .returned (.int .i64 (Hp.usedS S'.hp : Int)) ∧ Below Y.heap.size Y w') := fun Y hY => by
    have q := cells_any (c := c2) (lists_next h2 hY) (lsA_le (by omega)) (by rw [Hp.lsA_len]; omega) (lsA_el (by omega))
    rw [cel_used] at q
    exact q
  have HE : Hid (S'.hp = S.hp → ∀ Y, Below w.heap.size w Y → Calls Tryz.prog 30 #[.slice (some ⟨g1, 0, none⟩) (Hp.lsA S.hp).length c1, .slice (some ⟨g2, 0, none⟩) (Hp.lsA S'.hp).length c2] Y fun z w' => z = .returned (.bool true) ∧ Below Y.heap.size Y w') := fun hp Y hY => by
    have k2 := lists_next h2 hY
    rw [hp] at k2 ⊢
    exact Hp.same_any (lists_next h1 hY) k2 (lsA_le (by omega)) (lsA_el (by omega))
  have hc' : ¬ ((K.lim : Int) < (Hp.usedS S'.hp : Int)) := by omega
  clear h1 h2 hlg hab hel
  obtain ⟨ol, hol, -⟩ := hw.out
  have hst := hw.st
  have hsw : IntKind.i64.wrap (S.steps + 1) = S.steps + 1 := by rw [IntKind.wrap_i64]; omega
  have hcut : (⟨S'.out.toArray⟩ : ByteArray).extract 0 (⟨S.out.toArray⟩ : ByteArray).size = ⟨S.out.toArray⟩ := by rw [hol]; exact out_cut _ _
  have hsz : (⟨S.out.toArray⟩ : ByteArray).size ≤ (⟨S'.out.toArray⟩ : ByteArray).size := by
    rw [hol]
    show S.out.toArray.size ≤ (S.out ++ ol).toArray.size
    simp
  have hrd := hw.rd0
  have hrd1 := hw.rd1
  have hrdK := hw.rdK
  have hf0 := hw.f0
  have hf1 := hw.f1
  have hfd := hw.fd
  have hpe := hw.pe
  have htr := hw.tr
  have htp := hw.tp
  clear hw
  unfold setV runV
  rw [hst]
  have hba : S'.out = S.out → (⟨S'.out.toArray⟩ : ByteArray) = ⟨S.out.toArray⟩ := fun q => by rw [q]
  clear hol
  obtain ⟨sa, hsa⟩ : ∃ a : ByteArray, (⟨S.out.toArray⟩ : ByteArray) = a := ⟨_, rfl⟩
  obtain ⟨sb, hsb⟩ : ∃ a : ByteArray, (⟨S'.out.toArray⟩ : ByteArray) = a := ⟨_, rfl⟩
  rw [hsa, hsb] at hcut hsz
  rw [hsa, hsb] at hba
  rw [hsa, hsb]
  have FX := @went_cells w iq eq tq nq i ia e ea t ta K.inp.length na mn K.dep (K.lim : Int) (.int .i64 S.ph) (.int .i64 S.tr) (.string sa) (.int .i64 (S.rd : Int)) (.int .i64 S.steps) (.slice none 0 0) (.slice (some ⟨g1, 0, none⟩) (Hp.lsA S.hp).length c1) (.int .i64 S'.ph) (.int .i64 S'.tr) (.string sb) (.int .i64 (S'.rd : Int)) (.int .i64 (S.steps + 1)) (.slice none 0 0) (.slice (some ⟨g2, 0, none⟩) (Hp.lsA S'.hp).length c2)
  have n1 : ¬ ((S'.rd : Int) < (S.rd : Int)) := by omega
  have n2 : ¬ ((S.rd : Int) + 1 < (S'.rd : Int)) := by omega
  have n3 : ¬ ((K.inp.length : Int) < (S'.rd : Int)) := by omega
  have n4 : ¬ ((S'.fs.length : Int) < (S.fs.length : Int) - 1) := by omega
  have n5 : ¬ ((S.fs.length : Int) + 1 < (S'.fs.length : Int)) := by omega
  have n6 : ¬ (K.dep < (S'.fs.length : Int)) := by omega
  have w1 : IntKind.i64.wrap ((S.rd : Int) + 1) = (S.rd : Int) + 1 := by rw [IntKind.wrap_i64]; omega
  have w2 : IntKind.i64.wrap ((S.fs.length : Int) + 1) = (S.fs.length : Int) + 1 := by rw [IntKind.wrap_i64]; omega
  have w3 : IntKind.i64.wrap ((S.fs.length : Int) - 1) = (S.fs.length : Int) - 1 := by rw [IntKind.wrap_i64]; omega
  have w4 : ¬ ((sb.size : Int) < (sa.size : Int)) := by omega
  clear hsa hsb
  go_enter Tryz.func14, Tryz.ntmps14
  go_wp2_with fail
  generalize hX : ((w.alloc _).alloc _).alloc _ = X
  obtain ⟨bX, hXC⟩ := FX X hX
  clear FX hX
  have HBX : Hid (Below w.heap.size w X) := bX
  have HXC : Hid _ := hXC
  clear bX hXC
  obtain ⟨x4, x5, x6, r2, r3, r4, r6, s0, s1, s2, s3, s4, s6⟩ := HXC.out X (Below.refl _ X)
  replace r2 := cell_regrown r2
  replace r4 := cell_regrown r4
  replace s2 := cell_regrown s2
  replace s4 := cell_regrown s4
  clear x4 x5 x6 r3 r6 s0 s1 s3 s6
  refine wp_region_quiet_below (by kernel_rfl) (by kernel_rfl) ?_
  repeat (first | go_big_quiet_step (first | fail) | quiet_step (first | fail))
  refine wpQuiet_nil ?_
  intro _ hw'
  obtain ⟨⟨dq, osq⟩, hw''⟩ := hw'
  subst hw''
  have hY := below_regrown X dq osq
  first | (change Exit.then _ _ Exit.normal _ (Sort.grow (redrawn X dq) osq)) | skip
  generalize Sort.grow (redrawn X dq) osq = Y at hY ⊢
  have HXY : Hid (Below X.heap.size X Y) := hY
  clear hY r2 r4 s2 s4
  go_wp2_with fail
  obtain ⟨x4, x5, x6, r2, r3, r4, r6, s0, s1, s2, s3, s4, s6⟩ := HXC.out Y HXY.out
  have HBY : Hid (Below w.heap.size w Y) := below2 HBX.out HXY.out
  replace x4 := cell_regrown x4
  replace x6 := cell_regrown x6
  replace r3 := cell_regrown r3
  replace r6 := cell_regrown r6
  replace s3 := cell_regrown s3
  replace s6 := cell_regrown s6
  clear x5 r2 r4 s0 s1 s2 s4
  have d1 := fun d os => Calls.regrown_of (HG.out _ (below2 HBY.out (below_regrown Y d os)))
  have d2 := fun d os => Calls.regrown_of (HC.out _ (below2 HBY.out (below_regrown Y d os)))
  refine wp_region_quiet_below (by kernel_rfl) (by kernel_rfl) ?_
  repeat (first | go_big_quiet_step (first | with_reducible exact d1 _ _ | with_reducible exact d2 _ _) | quiet_step (first | with_reducible exact d1 _ _ | with_reducible exact d2 _ _))
  refine wpQuiet_nil ?_
  intro _ hw'
  obtain ⟨⟨dq, osq⟩, hw''⟩ := hw'
  subst hw''
  have hY := below_regrown Y dq osq
  first | (change Exit.then _ _ Exit.normal _ (Sort.grow (redrawn Y dq) osq)) | skip
  generalize Sort.grow (redrawn Y dq) osq = Z at hY ⊢
  clear d1 d2
  have HXZ : Hid (Below X.heap.size X Z) := below2 HXY.out hY
  clear hY x4 x6 r3 r6 s3 s6
  have HBZ : Hid (Below w.heap.size w Z) := below2 HBX.out HXZ.out
  obtain ⟨x4, x5, x6, r2, r3, r4, r6, s0, s1, s2, s3, s4, s6⟩ := HXC.out Z HXZ.out
  clear r4 s4 x6 n1 n2 n3 w1 w4
  by_cases hp2 : S'.ph = 2
  · obtain ⟨q1, q2, q3, q4, q5, q6, q7⟩ := htp hp2
    have hs := hba q1
    have HE2 := HE.out q4
    rw [q4] at HE2
    have HS : Hid (∀ Y, Below w.heap.size w Y → Calls Tryz.prog 30 #[.slice (some ⟨g1, 0, none⟩) (Hp.lsA S.hp).length c1, .slice (some ⟨g2, 0, none⟩) (Hp.lsA S.hp).length c2] Y fun z w' => z = .returned (.bool true) ∧ Below Y.heap.size Y w') := HE2
    clear HE2
    rw [q4] at s6 ⊢
    rw [hs] at s2
    rw [q2] at s3
    rw [hp2] at s0
    have hf : ¬ S'.fs.length = 0 := fun q => by have := hpe.1 q; omega
    rw [q3] at n4 n5 n6 hf q7 ⊢
    have hf1 : ((S.fs.length : Int) == 0) = false := by simpa using hf
    have ht5 : S'.tr = 5 → (S.rd : Int) = (K.inp.length : Int) := fun q => by have := q6 q; omega
    have hN : Hid (∀ z, Below Z.heap.size Z z → z.cell? ⟨w.heap.size, 4, none⟩ = some (.slice nq K.inp.length na) ∧ z.cell? ⟨w.heap.size, 5, none⟩ = some (.int .i64 K.dep) ∧ z.cell? ⟨w.heap.size + 1 + 1, 1, none⟩ = some (.int .i64 S'.tr) ∧ z.cell? ⟨w.heap.size + 1 + 1, 3, none⟩ = some (.int .i64 (S.rd : Int))) := fun z hz => ⟨(hz.cell (p := ⟨w.heap.size, 4, none⟩) (block_lt_of_cell x4)).trans x4, (hz.cell (p := ⟨w.heap.size, 5, none⟩) (block_lt_of_cell x5)).trans x5, (hz.cell (p := ⟨w.heap.size + 1 + 1, 1, none⟩) (block_lt_of_cell s1)).trans s1, (hz.cell (p := ⟨w.heap.size + 1 + 1, 3, none⟩) (block_lt_of_cell s3)).trans s3⟩
    clear hpe htr htp hba q1 q3 q4 q6 hf
    by_cases t5 : S'.tr = 5
    · rw [t5] at hN
      rw [ht5 t5] at hN s3
      have hkk : ((K.inp.length : Int) == (K.inp.length : Int)) = true := by simp
      go_wp2_with (first
        | (go_at_call 30; refine (HS.out _ HBZ.out).mono ?_; rintro z1 Z1 ⟨rfl, hb1⟩; obtain ⟨u4, u5, u1, u3⟩ := hN.out _ hb1; have HB1 : Hid (Below w.heap.size w Z1) := below2 HBZ.out hb1; clear hb1)
        | fail)
      go_ret
      exact ⟨rfl, HB1.out⟩
    have t5' : (S'.tr == 5) = false := by simpa using t5
    by_cases t3 : S'.tr = 3
    · rw [t3] at hN
      have hd := q7 t3
      rw [hd] at hf1 n4 n5 n6 w2 w3 ⊢
      have hkk : (K.dep == K.dep) = true := by simp
      clear q7 hd hfd
      go_wp2_with (first
        | (go_at_call 30; refine (HS.out _ HBZ.out).mono ?_; rintro z1 Z1 ⟨rfl, hb1⟩; obtain ⟨u4, u5, u1, u3⟩ := hN.out _ hb1; have HB1 : Hid (Below w.heap.size w Z1) := below2 HBZ.out hb1; clear hb1)
        | fail)
      go_ret
      exact ⟨rfl, HB1.out⟩
    have t3' : (S'.tr == 3) = false := by simpa using t3
    have t0' : (S'.tr != 0) = true := by simpa using q5
    go_wp2_with (first
      | (go_at_call 30; refine (HS.out _ HBZ.out).mono ?_; rintro z1 Z1 ⟨rfl, hb1⟩; obtain ⟨u4, u5, u1, u3⟩ := hN.out _ hb1; have HB1 : Hid (Below w.heap.size w Z1) := below2 HBZ.out hb1; clear hb1)
      | fail)
    go_ret
    exact ⟨rfl, HB1.out⟩
  · have hp2' : (S'.ph == 2) = false := by simpa using hp2
    have ht0 := htr hp2
    rw [ht0] at s1
    by_cases hp1 : S'.ph = 1
    · have hf := hpe.2 hp1
      rw [hp1] at s0
      have hf0 : (S'.fs.length : Int) = 0 := by omega
      rw [hf0] at n4 n5 n6 ⊢
      clear hpe htr htp hba
      go_wp2_with fail
      go_ret
      exact ⟨rfl, HBZ.out⟩
    · have hp1' : (S'.ph == 1) = false := by simpa using hp1
      have hf : ((S'.fs.length : Int) == 0) = false := by
        have : ¬ S'.fs.length = 0 := fun q => hp1 (hpe.1 q)
        simpa using this
      clear hpe htr htp hba
      go_wp2_with fail
      go_ret
      exact ⟨rfl, HBZ.out⟩
end Go.Proofs.YtahdkffijlfmnaaGreatDoor
