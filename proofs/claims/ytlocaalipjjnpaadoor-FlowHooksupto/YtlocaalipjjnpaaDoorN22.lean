import Derived.BigRegion
import Derived.Deep.QuietTactic
import Derived.BigQuiet
import Derived.Lib.QuietBelow
import Derived.Test.YtlocaalipjjnpaaDoorN16
import Derived.Test.YtlocaalipjjnpaaDoorN21
import Derived.Test.YtlocaalipjjnpaaDoorN12
import Derived.Test.YtlocaalipjjnpaaDoorN15
namespace Go.Proofs.YtlocaalipjjnpaaDoor
open Go.RowKit

theorem cho_world (w : World) (g o cap gw : Nat) (L : List Nd) (T : WT) (h : Lay w g o L) (ht : Tw w gw L.length T) : ∃ w3, (w.alloc (.cells #[.slice (some ⟨g, o, none⟩) L.length cap] 24)).alloc (.cells #[.bool false, .bool false] 61) = w3 ∧
    w3.cell? ⟨w.heap.size, 0, none⟩ = some (.slice (some ⟨g, o, none⟩) L.length cap) ∧ Lay w3 g o L ∧ Tw w3 gw L.length T ∧ Below w.heap.size w w3 ∧ w3.heap.size = w.heap.size + 2 ∧ (w3.cell? ⟨w.heap.size + 1, 0, none⟩ = some (.bool false) ∧ w3.frozen? ⟨w.heap.size + 1, 0, none⟩ = false) ∧ (w3.cell? ⟨w.heap.size + 1, 1, none⟩ = some (.bool false) ∧ w3.frozen? ⟨w.heap.size + 1, 1, none⟩ = false) := by
  obtain ⟨w3, hw3⟩ : ∃ w3, (w.alloc (.cells #[.slice (some ⟨g, o, none⟩) L.length cap] 24)).alloc (.cells #[.bool false, .bool false] 61) = w3 := ⟨_, rfl⟩
  have B3 : Below w.heap.size w w3 := by rw [← hw3]; exact ((Below.refl _ w).alloc (Nat.le_refl _) _).alloc (by simp) _
  have h0 : w3.heap[w.heap.size]? = some (.cells #[.slice (some ⟨g, o, none⟩) L.length cap] 24) := by rw [← hw3]; simp only [hgAlloc, World.size_alloc]; rw [if_neg (by omega), if_pos trivial]
  have h1 : w3.heap[w.heap.size + 1]? = some (.cells #[.bool false, .bool false] 61) := by rw [← hw3]; simp only [hgAlloc, World.size_alloc]; rw [if_pos (by first | trivial | omega)]
  exact ⟨w3, hw3, (cell_block h0 rfl).1, h.next B3, ht.next B3, B3, by rw [← hw3]; simp, cell_block h1 rfl, cell_block h1 rfl⟩

set_option maxRecDepth 100000 in
set_option maxHeartbeats 4000000 in
theorem rchoice_any (w : World) (g o cap : Nat) (L : List Nd) (gw n : Nat) (T : WT) (hL : L.length ≤ 1353245080300) (hn : n < L.length) (hw : Wy L) (h : Hid (Lay w g o L)) (ht : Hid (Tw w gw L.length T)) (h7 : (nd L n).kind = 7) :
    Calls Tryd.prog 50 #[.agg #[.slice (some ⟨g, o, none⟩) L.length cap], .int .i64 (n : Int), .slice (some ⟨gw, 0, none⟩) L.length L.length] w fun e w' => e = .returned (.agg #[.bool (wayAt L T n).1, .bool (wayAt L T n).2]) ∧ Below w.heap.size w w' := by
  obtain ⟨w3, hw3, c0, hl3, tw3, B3, z3, r0, r1⟩ := cho_world w g o cap gw L T h.out ht.out
  obtain ⟨a1, a2⟩ := hw.iff n hn h7
  obtain ⟨he, e1, e2⟩ := end_int (hw.good n hn)
  obtain ⟨he2, e3, e4⟩ := end_int (hw.good (n + 1) (by omega))
  obtain ⟨he3, e5, e6⟩ := end_int (hw.good (endOf L (n + 1)) (by omega))
  have s0 := hl3.size hn
  have s1 := hl3.size (i := n + 1) (by omega)
  have s2 := hl3.size (i := endOf L (n + 1)) (by omega)
  rw [show (nd L n).size = (endOf L n : Int) - n by show sz L n = _; omega] at s0
  rw [show (nd L (n + 1)).size = (endOf L (n + 1) : Int) - (n + 1 : Nat) by show sz L (n + 1) = _; omega] at s1
  rw [show (nd L (endOf L (n + 1))).size = (endOf L (endOf L (n + 1)) : Int) - (endOf L (n + 1) : Nat) by show sz L (endOf L (n + 1)) = _; omega] at s2
  have TW : Hid (Tw w3 gw L.length T) := tw3
  obtain ⟨r, hr⟩ : ∃ r, wayAt L T n = r := ⟨_, rfl⟩
  have HR : Hid ((if endOf L n ≤ endOf L (endOf L (n + 1)) then (false, true) else ((T (endOf L (n + 1))).1 && (T (endOf L (endOf L (n + 1)))).1, (T (endOf L (n + 1))).2 || (T (endOf L (endOf L (n + 1)))).2)) = r) := by show _ = _; rw [← hr, way_7 h7]
  rw [hr]
  clear hr he he2 he3 hw h7 h ht hl3 tw3
  generalize endOf L (endOf L (n + 1)) = E2 at *
  generalize endOf L (n + 1) = E1 at *
  generalize endOf L n = E at *
  have HF : Hid (∀ a b : Bool, Below w.heap.size w ((w3.setCell ⟨w.heap.size + 1, 0, none⟩ (.bool a)).setCell ⟨w.heap.size + 1, 1, none⟩ (.bool b))) := fun a b => (B3.setCell (p := ⟨w.heap.size + 1, 0, none⟩) (by show w.heap.size ≤ w.heap.size + 1; omega) _).setCell (p := ⟨w.heap.size + 1, 1, none⟩) (by show w.heap.size ≤ w.heap.size + 1; omega) _
  have i0 : (0 : Int) ≤ (n : Int) := by omega
  have i1 : (n : Int) < (L.length : Int) := by omega
  have i2 : (0 : Int) ≤ (n : Int) + 1 := by omega
  have i3 : (n : Int) + 1 < (L.length : Int) := by omega
  have i4 : IntKind.i64.wrap ((n : Int) + 1) = (n : Int) + 1 := by rw [IntKind.wrap_i64]; omega
  have i5 : IntKind.i64.wrap ((n : Int) + 1 + ((E1 : Int) - ((n : Int) + 1))) = (E1 : Int) := by rw [IntKind.wrap_i64]; omega
  have i6 : IntKind.i64.wrap ((E1 : Int) + ((E2 : Int) - E1)) = (E2 : Int) := by rw [IntKind.wrap_i64]; omega
  have i7 : IntKind.i64.wrap ((n : Int) + ((E : Int) - n)) = (E : Int) := by rw [IntKind.wrap_i64]; omega
  have i8 : (0 : Int) ≤ (E1 : Int) := by omega
  have i9 : (E1 : Int) < (L.length : Int) := by omega
  have i10 : ((n : Int) + 1).toNat = n + 1 := by omega
  rw [Int.natCast_add, show ((1 : Nat) : Int) = 1 from rfl] at s1
  clear B3
  by_cases hle : E ≤ E2
  · have hge : (E2 : Int) ≥ (E : Int) := by omega
    obtain rfl : r = (false, true) := by rw [← HR.out, if_pos hle]
    clear HR
    go_enter Tryd.func50, Tryd.ntmps50
    go_wp2
    have t0 := two_set (a := .bool false) (b := .bool true) r0.1 r1.1
    exact bodyPost_ret (v := .agg #[.bool false, .bool true]) (by simp [results, Tryd.results50, go_sem, t0.1, t0.2]) rfl ⟨rfl, HF.out _ _⟩
  · have hge : ¬ (E2 : Int) ≥ (E : Int) := by omega
    obtain rfl : r = ((T E1).1 && (T E2).1, (T E1).2 || (T E2).2) := by rw [← HR.out, if_neg hle]
    have k0 : (0 : Int) ≤ (E2 : Int) := by omega
    have k1 : (E2 : Int) < (L.length : Int) := by omega
    have y1 := TW.out.r E1 (by omega)
    have y2 := TW.out.e E1 (by omega)
    have y3 := TW.out.r E2 (by omega)
    have y4 := TW.out.e E2 (by omega)
    clear HR TW
    dsimp only
    generalize (T E2).1 = b1 at *
    generalize (T E2).2 = b2 at *
    have HQ : Hid (∀ a b : Bool, ((w3.setCell ⟨w.heap.size + 1, 0, none⟩ (.bool a)).setCell ⟨w.heap.size + 1, 1, none⟩ (.bool b)).drew.cell? ⟨w.heap.size + 1, 0, none⟩ = some (.bool a) ∧ ((w3.setCell ⟨w.heap.size + 1, 0, none⟩ (.bool a)).setCell ⟨w.heap.size + 1, 1, none⟩ (.bool b)).drew.cell? ⟨w.heap.size + 1, 1, none⟩ = some (.bool b)) := fun a b => two_set r0.1 r1.1
    cases t1 : (T E1).1 with
    | true =>
      cases t2 : (T E1).2 with
      | true =>
        rw [t1] at y1
        rw [t2] at y2
        go_enter Tryd.func50, Tryd.ntmps50
        go_wp2
        go_region
        go_wp2
        have t0 := HQ.out b1 true
        exact bodyPost_ret (v := .agg #[.bool b1, .bool true]) (by simp [results, Tryd.results50, go_sem, t0.1, t0.2]) rfl ⟨by simp, (HF.out _ _).drew⟩
      | false =>
        rw [t1] at y1
        rw [t2] at y2
        go_enter Tryd.func50, Tryd.ntmps50
        go_wp2
        go_region
        go_wp2
        have t0 := HQ.out b1 b2
        exact bodyPost_ret (v := .agg #[.bool b1, .bool b2]) (by simp [results, Tryd.results50, go_sem, t0.1, t0.2]) rfl ⟨by simp, (HF.out _ _).drew⟩
    | false =>
      cases t2 : (T E1).2 with
      | true =>
        rw [t1] at y1
        rw [t2] at y2
        go_enter Tryd.func50, Tryd.ntmps50
        go_wp2
        go_region
        go_wp2
        have t0 := HQ.out false true
        exact bodyPost_ret (v := .agg #[.bool false, .bool true]) (by simp [results, Tryd.results50, go_sem, t0.1, t0.2]) rfl ⟨by simp, (HF.out _ _).drew⟩
      | false =>
        rw [t1] at y1
        rw [t2] at y2
        go_enter Tryd.func50, Tryd.ntmps50
        go_wp2
        go_region
        go_wp2
        have t0 := HQ.out false b2
        exact bodyPost_ret (v := .agg #[.bool false, .bool b2]) (by simp [results, Tryd.results50, go_sem, t0.1, t0.2]) rfl ⟨by simp, (HF.out _ _).drew⟩

set_option maxRecDepth 100000 in
set_option maxHeartbeats 1000000 in
theorem rbody_any (w : World) (g o cap : Nat) (L : List Nd) (n : Nat) (hL : L.length ≤ 1353245080300) (hn : n < L.length) (hw : Wy L) (h : Hid (Lay w g o L)) (h2 : (nd L n).kind = 2) :
    Calls Tryd.prog 31 #[.agg #[.slice (some ⟨g, o, none⟩) L.length cap], .int .i64 (n : Int)] w fun e w' => e = .returned (.int .i64 (bodyOf L n : Int)) ∧ Below w.heap.size w w' := by
  obtain ⟨w1, hw1⟩ : ∃ w1, w.alloc (.cells #[.slice (some ⟨g, o, none⟩) L.length cap] 24) = w1 := ⟨_, rfl⟩
  have B1 : Hid (Below w.heap.size w w1) := by show Below _ _ _; rw [← hw1]; exact (Below.refl _ w).alloc (Nat.le_refl _) _
  have c0 : w1.cell? ⟨w.heap.size, 0, none⟩ = some (.slice (some ⟨g, o, none⟩) L.length cap) := by rw [← hw1]; exact cell_new _ _ _ _ _ rfl
  have HL1 : Hid (Lay w1 g o L) := h.out.next B1.out
  obtain ⟨a, b, -, d, e⟩ := hw.fn n hn h2
  obtain ⟨he, -, f2⟩ := end_int (hw.good n hn)
  have HE : Hid (∀ j, n < j → j < bodyOf L n → (nd L j).size = 1) := fun j h1 h2 => (e j h1 h2).2
  have hbl : bodyOf L n < L.length := by omega
  have HC : Hid ((nd L (bodyOf L n)).size = (endOf L n : Int) - (bodyOf L n : Int)) := by
    have := (end_int (hw.good (bodyOf L n) hbl)).1
    show sz L (bodyOf L n) = _
    omega
  have s0 := HL1.out.size hn
  rw [show (nd L n).size = (endOf L n : Int) - n by show sz L n = _; omega] at s0
  clear e h d he
  generalize bodyOf L n = B at *
  generalize endOf L n = E at *
  have i0 : (0 : Int) ≤ (n : Int) := by omega
  have i1 : (n : Int) < (L.length : Int) := by omega
  have i3 : IntKind.i64.wrap ((n : Int) + 1) = (n : Int) + 1 := by rw [IntKind.wrap_i64]; omega
  have i7 : IntKind.i64.wrap ((n : Int) + ((E : Int) - n)) = (E : Int) := by rw [IntKind.wrap_i64]; omega
  go_enter Tryd.func31, Tryd.ntmps31
  go_wp2
  clear i3
  go_loop [5, 6] (fun v5 v6 => ∃ (out k : Nat), v5 = .int .i64 (out : Int) ∧ v6 = .int .i64 (k : Int) ∧ ((n < k ∧ k ≤ B) ∨ (k = E ∧ out = B))) (fun _ v => E - (intOf v).toNat)
  case atStart => exact ⟨n, n + 1, rfl, by simp, .inl ⟨by omega, by omega⟩⟩
  case round =>
    obtain ⟨out, k, rfl, rfl, hk⟩ := hrel
    by_cases hke : k = E ∧ out = B
    · obtain ⟨rfl, rfl⟩ := hke
      have hlt' : ¬ (k : Int) < (k : Int) := by omega
      go_wp2
      go_ret
      exact ⟨rfl, B1.out⟩
    · have hk' : n < k ∧ k ≤ B := by rcases hk with q | q; exact q; exact absurd q hke
      have j0 : (0 : Int) ≤ (k : Int) := by omega
      have j1 : (k : Int) < (L.length : Int) := by omega
      have hlt' : (k : Int) < (E : Int) := by omega
      have d8 := HL1.out.size (i := k) (by omega)
      by_cases hlt : k < B
      · rw [HE.out k hk'.1 hlt] at d8
        have i4 : IntKind.i64.wrap ((k : Int) + 1) = (k : Int) + 1 := by rw [IntKind.wrap_i64]; omega
        go_wp2
        exact ⟨⟨k, k + 1, rfl, by simp, .inl ⟨by omega, by omega⟩⟩, by simp [intOf]; omega⟩
      · obtain rfl : k = B := by omega
        rw [HC.out] at d8
        have i4 : IntKind.i64.wrap ((k : Int) + ((E : Int) - k)) = (E : Int) := by rw [IntKind.wrap_i64]; omega
        go_wp2
        exact ⟨⟨k, E, rfl, by first | rfl | (congr 1; omega), .inr ⟨rfl, rfl⟩⟩, by simp [intOf]; omega⟩

def Rng (L : List Nd) : Prop := ∀ n, n < L.length → (nd L n).int ≤ 9223372036854775807

set_option maxRecDepth 100000 in
set_option maxHeartbeats 1000000 in
theorem rprogram_any (w : World) (p : Option Addr) (n cap : Nat) (L : List Nd) (h : Reads w p n L) (hk : RKw w) (hg : Rng L) :
    Calls Tryd.prog 29 #[.agg #[.slice p n cap]] w fun e w' => e = .returned (.bool (progS nameS typeS L)) ∧ Below w.heap.size w w' := by
  obtain ⟨w1, hw1⟩ : ∃ w1, w.alloc (.cells #[.slice p n cap] 24) = w1 := ⟨_, rfl⟩
  have B1 : Hid (Below w.heap.size w w1) := by show Below _ _ _; rw [← hw1]; exact (Below.refl _ w).alloc (Nat.le_refl _) _
  have c1 : w1.cell? ⟨w.heap.size, 0, none⟩ = some (.slice p n cap) := by rw [← hw1]; exact cell_new _ _ _ _ _ rfl
  have z1 : w.heap.size < w1.heap.size := by rw [← hw1]; simp
  have RD : Hid (Reads w1 p n L) := h.next B1.out
  have HV : Hid (Calls Tryd.prog 10 #[.agg #[.slice p n cap]] w1 fun e w' => e = .returned (.int .i64 (if treeS nameS typeS L then 0 else 30)) ∧ Below w1.heap.size w1 w') := by
    have := rvalid_any w1 p n cap L RD.out (hk.next B1.out)
    rwa [ref_tree L h.1.len hg] at this
  obtain ⟨b, hb⟩ : ∃ b, treeS nameS typeS L = b := ⟨_, rfl⟩
  have HP : Hid (progS nameS typeS L = (b && (nd L 0).kind == 1)) := by show progS _ _ _ = _; unfold progS; rw [hb]
  rw [hb] at HV
  rw [HP.out]
  clear h hk
  cases b with
  | false =>
    clear hb RD HP
    have HV' : Hid (Calls Tryd.prog 10 #[.agg #[.slice p n cap]] w1 fun e w' => e = .returned (.int .i64 30) ∧ Below w1.heap.size w1 w') := HV
    clear HV
    go_enter Tryd.func29, Tryd.ntmps29
    go_wp2_with (first
      | (go_at_call 10; refine HV'.out.mono ?_; rintro e w2 ⟨rfl, hb2⟩)
      | go_in)
    go_ret
    exact ⟨rfl, B1.out.trans (hb2.mono B1.out.size)⟩
  | true =>
    have hpos := (tr_of hb).pos
    obtain ⟨hf, rfl, hr⟩ := RD.out
    obtain ⟨g, o, rfl, hl⟩ := hr (fun e => by rw [e] at hpos; simp at hpos)
    have HL : Hid (Lay w1 g o L) := hl
    have HV' : Hid (Calls Tryd.prog 10 #[.agg #[.slice (some ⟨g, o, none⟩) L.length cap]] w1 fun e w' => e = .returned (.int .i64 0) ∧ Below w1.heap.size w1 w') := HV
    have i1 : (0 : Int) < (L.length : Int) := by omega
    clear HV hb RD HP hf hr hl hg
    obtain ⟨q, hq⟩ : ∃ q, (nd L 0).kind = q := ⟨_, rfl⟩
    rw [hq]
    have HQ : Hid ((nd L 0).kind = q) := hq
    clear hq
    go_enter Tryd.func29, Tryd.ntmps29
    go_wp2_with (first
      | (go_at_call 10; refine HV'.out.mono ?_; rintro e w2 ⟨rfl, hb2⟩; have d0 := (HL.out.next hb2).kind hpos; rw [Nat.zero_mul, Nat.add_zero, HQ.out] at d0; have d1 := (hb2.cell (p := ⟨w.heap.size, 0, none⟩) z1).trans c1)
      | go_in)
    go_ret
    exact ⟨rfl, B1.out.trans (hb2.mono B1.out.size)⟩

end Go.Proofs.YtlocaalipjjnpaaDoor

namespace Go.Proofs.YtlocaalipjjnpaaDoor
open Go.RowKit

theorem tbl_unset (L : List Nd) : ∀ (d i : Nat), i + d < L.length → tbl L d i = (false, false)
  | 0, _, _ => rfl
  | d + 1, i, h => by
    show (if i = L.length - (d + 1) then wayAt L (tbl L d) (L.length - (d + 1)) else tbl L d i) = _
    rw [if_neg (by omega)]
    exact tbl_unset L d i (by omega)

theorem info61 : (Tryd.prog.info? 61).map (fun i => (i.zero, i.size, i.bytes)) = some (some (.agg #[.bool false, .bool false]), 2, 2) := by kernel_rfl
theorem run_make61 (n : Nat) (hn : n ≤ 1353245080300) : ∃ Z : Array Value, (∀ j, j < n * 2 → Z[j]? = some (.bool false)) ∧ ∀ w : World, (Instr.makeSlice 57 (.int .i64 (n : Int)) (.int .i64 (n : Int))).run Tryd.prog w = .ok (.slice (some ⟨w.heap.size, 0, none⟩) n n) (w.alloc (.cells Z 61)) := by
  obtain ⟨i, hq, hz, hi, hb⟩ := info_parts info61
  refine ⟨madeCells (Value.agg #[.bool false, .bool false]).cells (n * 2), fun j hj => ?_, fun w => ?_⟩
  · have hc : (Value.agg #[.bool false, .bool false]).cells = #[.bool false, .bool false] := by simp [Value.cells]
    rw [hc]
    unfold madeCells
    have h2 : j % 2 = 0 ∨ j % 2 = 1 := by omega
    rcases h2 with h | h <;> simp [hj, h]
  · have := run_make (P := Tryd.prog) w 57 61 i _ Tryd.underlying57 hq hz .i64 .i64 (n : Int) (n : Int) (by omega) (by omega) (by rw [hb]; omega) (by omega)
    rw [show ((n : Int)).toNat = n by omega, hi] at this
    exact this

/-- What the reference's loop over the nodes keeps. -/
structure RW (N g o cap gw : Nat) (L : List Nd) (d : Nat) (W : World) : Prop where
  tc : W.cell? ⟨N, 0, none⟩ = some (.slice (some ⟨g, o, none⟩) L.length cap)
  lay : Lay W g o L
  tw : Tw W gw L.length (tbl L d)
  fz : ∀ j, j < L.length * 2 → W.frozen? ⟨gw, j, none⟩ = false

theorem RW.step {N g o cap gw : Nat} {L : List Nd} {d x : Nat} {W W1 : World} {a b : Bool} (h : RW N g o cap gw L d W) (hg : g < N) (hw : N < gw) (hx : x + d + 1 = L.length) (hb1 : Below W.heap.size W W1) (hab : wayAt L (tbl L d) x = (a, b)) :
    RW N g o cap gw L (d + 1) ((W1.setCell ⟨gw, x * 2, none⟩ (.bool a)).setCell ⟨gw, x * 2 + 1, none⟩ (.bool b)) := by
  have hne : ∀ {b c : Nat} {i j : Nat}, b ≠ c → (⟨b, i, none⟩ : Addr) ≠ ⟨c, j, none⟩ := fun hbc e => hbc (by cases e; rfl)
  have hno : ∀ {b i j : Nat}, i ≠ j → (⟨b, i, none⟩ : Addr) ≠ ⟨b, j, none⟩ := fun hij e => hij (by cases e; rfl)
  have h1 : Tw W1 gw L.length (tbl L d) := h.tw.next hb1
  have hl := h.lay.next hb1
  have ln := World.block_lt_of_cell? W _ h.tc
  have htb : ∀ i, tbl L (d + 1) i = if i = x then (a, b) else tbl L d i := fun i => by
    show (if i = L.length - (d + 1) then wayAt L (tbl L d) (L.length - (d + 1)) else tbl L d i) = _
    rw [show L.length - (d + 1) = x by omega, hab]
  have hxl : x < L.length := by omega
  refine ⟨set_at _ (set_at _ ((hb1.cell (p := ⟨N, 0, none⟩) ln).trans h.tc) (hne (by omega))) (hne (by omega)), ⟨by rw [size_set, size_set]; exact hl.lt, fun i hi j v hv => set_at _ (set_at _ (hl.c i hi j v hv) (hne (by omega))) (hne (by omega))⟩, ⟨by rw [size_set, size_set]; exact h1.l, fun i hi => ?_, fun i hi => ?_⟩, fun j hj => by rw [World.frozen?_setCell, World.frozen?_setCell]; exact (hb1.frozen (p := ⟨gw, j, none⟩) h.tw.l).trans (h.fz j hj)⟩
  · rw [htb]
    by_cases e : i = x
    · subst e
      rw [if_pos rfl]
      exact set_at _ (set_same (h1.r i hi) _) (hno (by omega))
    · rw [if_neg e]
      exact set_at _ (set_at _ (h1.r i hi) (hno (by omega))) (hno (by omega))
  · rw [htb]
    by_cases e : i = x
    · subst e
      rw [if_pos rfl]
      exact set_same (set_at _ (h1.e i hi) (hno (by omega))) _
    · rw [if_neg e]
      exact set_at _ (set_at _ (h1.e i hi) (hno (by omega))) (hno (by omega))

theorem RW.skip {N g o cap gw : Nat} {L : List Nd} {d x : Nat} {W : World} (h : RW N g o cap gw L d W) (hx : x + d + 1 = L.length) (hab : wayAt L (tbl L d) x = (false, false)) : RW N g o cap gw L (d + 1) W := by
  have htb : ∀ i, tbl L (d + 1) i = tbl L d i := fun i => by
    show (if i = L.length - (d + 1) then wayAt L (tbl L d) (L.length - (d + 1)) else tbl L d i) = _
    rw [show L.length - (d + 1) = x by omega, hab]
    split
    · rename_i e
      subst e
      exact (tbl_unset L d i (by omega)).symm
    · rfl
  exact ⟨h.tc, h.lay, ⟨h.tw.l, fun i hi => by rw [htb]; exact h.tw.r i hi, fun i hi => by rw [htb]; exact h.tw.e i hi⟩, h.fz⟩

set_option maxRecDepth 100000 in
set_option maxHeartbeats 8000000 in
theorem rways_any (w : World) (g o cap : Nat) (L : List Nd) (hL : L.length ≤ 1353245080300) (hw : Wy L) (h : Hid (Lay w g o L)) :
    Calls Tryd.prog 30 #[.agg #[.slice (some ⟨g, o, none⟩) L.length cap]] w fun e w' => (∃ gw, e = .returned (.slice (some ⟨gw, 0, none⟩) L.length L.length) ∧ Hid (Tw w' gw L.length (tbl L L.length))) ∧ Below w.heap.size w w' := by
  obtain ⟨Z, hZ, hmk⟩ := run_make61 L.length hL
  obtain ⟨w2, hw2⟩ : ∃ w2, (w.alloc (.cells #[.slice (some ⟨g, o, none⟩) L.length cap] 24)).alloc (.cells Z 61) = w2 := ⟨_, rfl⟩
  have B2 : Below w.heap.size w w2 := by rw [← hw2]; exact ((Below.refl _ w).alloc (Nat.le_refl _) _).alloc (by simp) _
  have h0 : w2.heap[w.heap.size]? = some (.cells #[.slice (some ⟨g, o, none⟩) L.length cap] 24) := by rw [← hw2]; simp only [hgAlloc, World.size_alloc]; rw [if_neg (by omega), if_pos trivial]
  have h1 : w2.heap[w.heap.size + 1]? = some (.cells Z 61) := by rw [← hw2]; simp only [hgAlloc, World.size_alloc]; rw [if_pos (by first | trivial | omega)]
  have hrw : RW w.heap.size g o cap (w.heap.size + 1) L 0 w2 := ⟨(cell_block h0 rfl).1, h.out.next B2, ⟨(Array.getElem?_eq_some_iff.1 h1).1, fun i hi => (cell_block h1 (hZ _ (by omega))).1, fun i hi => (cell_block h1 (hZ _ (by omega))).1⟩, fun j hj => (cell_block h1 (hZ j hj)).2⟩
  have c0 := hrw.tc
  have HRW : Hid (RW w.heap.size g o cap (w.heap.size + 1) L 0 w2) := hrw
  have hg := h.out.lt
  have HW : Hid (Wy L) := hw
  have BB : Hid (Below w.heap.size w w2) := B2
  have i3 : IntKind.i64.wrap ((L.length : Int) - 1) = (L.length : Int) - 1 := by rw [IntKind.wrap_i64]; omega
  clear hw h0 h1 hrw h hZ B2
  go_enter Tryd.func30, Tryd.ntmps30
  go_wp2
  clear i3 hw2 c0
  go_loopw [4] (fun v wr => ∃ d : Nat, v = .int .i64 ((L.length : Int) - d - 1) ∧ d ≤ L.length ∧ Hid (RW w.heap.size g o cap (w.heap.size + 1) L d wr) ∧ Hid (Below (w.heap.size + 1) w2 wr)) (fun v _ => ((intOf v) + 1).toNat)
  case atStart => exact ⟨0, by simp, by omega, HRW, Below.refl _ _⟩
  case round =>
    obtain ⟨d, rfl, hd, hr, hB⟩ := hrel
    clear HRW
    by_cases hlt : d < L.length
    · obtain ⟨x, hx⟩ : ∃ x : Nat, x + d + 1 = L.length := ⟨L.length - d - 1, by omega⟩
      have hxx : (L.length : Int) - d - 1 = (x : Int) := by omega
      rw [hxx]
      have j0 : (0 : Int) ≤ (x : Int) := by omega
      have j0' : (x : Int) ≥ 0 := by omega
      have j1 : (x : Int) < (L.length : Int) := by omega
      have hxl : x < L.length := by omega
      have i4 : IntKind.i64.wrap ((x : Int) - 1) = (x : Int) - 1 := by rw [IntKind.wrap_i64]; omega
      have t0 := hr.out.tc
      have k0 := hr.out.lay.kind hxl
      have HS : Hid (∀ k w, Calls Tryd.prog 44 #[.int .i64 k] w fun e w' => e = .returned (.bool (isStmt k)) ∧ w = w') := rStmt_any
      have HC1 : Hid (Calls Tryd.prog 49 #[.agg #[.slice (some ⟨g, o, none⟩) L.length cap], .int .i64 (x : Int), .slice (some ⟨w.heap.size + 1, 0, none⟩) L.length L.length] wr fun e w' => e = .returned (.agg #[.bool (retL (tbl L d) (stmS L (x + 1) (endOf L x)) false), .bool (endL (tbl L d) (stmS L (x + 1) (endOf L x)))]) ∧ Below wr.heap.size wr w') := rblock_any wr g o cap L (w.heap.size + 1) x (tbl L d) hL hxl HW.out hr.out.lay hr.out.tw
      have HST : Hid (∀ (W1 : World) (a b : Bool), Below wr.heap.size wr W1 → wayAt L (tbl L d) x = (a, b) → RW w.heap.size g o cap (w.heap.size + 1) L (d + 1) ((W1.setCell ⟨w.heap.size + 1, x * 2, none⟩ (.bool a)).setCell ⟨w.heap.size + 1, x * 2 + 1, none⟩ (.bool b)) ∧ Below (w.heap.size + 1) w2 ((W1.setCell ⟨w.heap.size + 1, x * 2, none⟩ (.bool a)).setCell ⟨w.heap.size + 1, x * 2 + 1, none⟩ (.bool b))) := fun W1 a b hb hab =>
        ⟨hr.out.step hg (Nat.lt_succ_self _) hx hb hab, ((hB.out.trans (hb.mono (by have := World.block_lt_of_cell? wr _ (hr.out.tw.r 0 (by omega)); show w.heap.size + 1 ≤ wr.heap.size; exact Nat.le_of_lt this))).setCell (p := ⟨w.heap.size + 1, x * 2, none⟩) (Nat.le_refl _) _).setCell (p := ⟨w.heap.size + 1, x * 2 + 1, none⟩) (Nat.le_refl _) _⟩
      have HC : Hid (∀ W1, Below wr.heap.size wr W1 → ∃ u v : Bool, W1.cell? ⟨w.heap.size + 1, x * 2, none⟩ = some (.bool u) ∧ W1.cell? ⟨w.heap.size + 1, x * 2 + 1, none⟩ = some (.bool v) ∧ W1.frozen? ⟨w.heap.size + 1, x * 2, none⟩ = false ∧ W1.frozen? ⟨w.heap.size + 1, x * 2 + 1, none⟩ = false) := fun W1 hb =>
        ⟨_, _, (hr.out.tw.next hb).r x hxl, (hr.out.tw.next hb).e x hxl, (hb.frozen (p := ⟨w.heap.size + 1, x * 2, none⟩) hr.out.tw.l).trans (hr.out.fz _ (by omega)), (hb.frozen (p := ⟨w.heap.size + 1, x * 2 + 1, none⟩) hr.out.tw.l).trans (hr.out.fz _ (by omega))⟩
      have fin : ∀ W' : World, RW w.heap.size g o cap (w.heap.size + 1) L (d + 1) W' → Below (w.heap.size + 1) w2 W' → (∃ d' : Nat, Value.int .i64 ((x : Int) - 1) = .int .i64 ((L.length : Int) - d' - 1) ∧ d' ≤ L.length ∧ Hid (RW w.heap.size g o cap (w.heap.size + 1) L d' W') ∧ Hid (Below (w.heap.size + 1) w2 W')) := fun W' h1 h2 => ⟨d + 1, by congr 1; omega, by omega, h1, h2⟩
      have FIN : Hid (∀ W' : World, RW w.heap.size g o cap (w.heap.size + 1) L (d + 1) W' → Below (w.heap.size + 1) w2 W' → (∃ d' : Nat, Value.int .i64 ((x : Int) - 1) = .int .i64 ((L.length : Int) - d' - 1) ∧ d' ≤ L.length ∧ Hid (RW w.heap.size g o cap (w.heap.size + 1) L d' W') ∧ Hid (Below (w.heap.size + 1) w2 W'))) := fin
      clear fin hxx
      by_cases k4 : (nd L x).kind = 4
      · have hwa := way_4 (T := tbl L d) k4
        rw [k4] at k0
        generalize retL (tbl L d) (stmS L (x + 1) (endOf L x)) false = a at *
        generalize endL (tbl L d) (stmS L (x + 1) (endOf L x)) = b at *
        have HWA : Hid (wayAt L (tbl L d) x = (a, b)) := hwa
        clear hwa k4
        go_wp2_with (first
          | (go_at_call 44; refine (HS.out _ _).mono ?_; rintro e w4 ⟨rfl, hw4⟩; subst hw4)
          | (go_at_call 49; refine HC1.out.mono ?_; rintro e w5 ⟨rfl, hb5⟩; obtain ⟨u, v, x0, x1, x2, x3⟩ := HC.out w5 hb5)
          | go_in)
        obtain ⟨y0, y1⟩ := HST.out w5 a b hb5 HWA.out
        exact ⟨FIN.out _ y0 y1, by simp [intOf]⟩
      · have k4' : ((nd L x).kind == 4) = false := by simpa using k4
        clear HC1
        by_cases k7 : (nd L x).kind = 7
        · have HC2 : Hid (Calls Tryd.prog 50 #[.agg #[.slice (some ⟨g, o, none⟩) L.length cap], .int .i64 (x : Int), .slice (some ⟨w.heap.size + 1, 0, none⟩) L.length L.length] wr fun e w' => e = .returned (.agg #[.bool (wayAt L (tbl L d) x).1, .bool (wayAt L (tbl L d) x).2]) ∧ Below wr.heap.size wr w') := rchoice_any wr g o cap L (w.heap.size + 1) x (tbl L d) hL hxl HW.out hr.out.lay hr.out.tw k7
          rw [k7] at k0 k4'
          have HWA : Hid (wayAt L (tbl L d) x = ((wayAt L (tbl L d) x).1, (wayAt L (tbl L d) x).2)) := rfl
          generalize (wayAt L (tbl L d) x).1 = a at *
          generalize (wayAt L (tbl L d) x).2 = b at *
          clear k7 k4 k4'
          go_wp2_with (first
            | (go_at_call 44; refine (HS.out _ _).mono ?_; rintro e w4 ⟨rfl, hw4⟩; subst hw4)
            | (go_at_call 50; refine HC2.out.mono ?_; rintro e w5 ⟨rfl, hb5⟩; obtain ⟨u, v, x0, x1, x2, x3⟩ := HC.out w5 hb5)
            | go_in)
          obtain ⟨y0, y1⟩ := HST.out w5 a b hb5 HWA.out
          exact ⟨FIN.out _ y0 y1, by simp [intOf]⟩
        · have k7' : ((nd L x).kind == 7) = false := by simpa using k7
          by_cases k12 : (nd L x).kind = 12
          · clear k4' k7'
            have hwa : wayAt L (tbl L d) x = (true, false) := way_12 k12
            have HWA : Hid (wayAt L (tbl L d) x = (true, false)) := hwa
            rw [k12] at k0
            obtain ⟨u, v, x0, x1, x2, x3⟩ := HC.out wr (Below.refl _ _)
            clear hwa
            go_wp2_with (first
              | (go_at_call 44; refine (HS.out _ _).mono ?_; rintro e w4 ⟨rfl, hw4⟩; subst hw4)
              | go_in)
            obtain ⟨y0, y1⟩ := HST.out wr true false (Below.refl _ _) HWA.out
            exact ⟨FIN.out _ y0 y1, by simp [intOf]⟩
          · have k12' : ((nd L x).kind == 12) = false := by simpa using k12
            by_cases k10 : (nd L x).kind = 10
            · clear k4' k7' k12'
              have hwa : wayAt L (tbl L d) x = (false, false) := way_1011 (.inl k10)
              have HWA : Hid (wayAt L (tbl L d) x = (false, false)) := hwa
              rw [k10] at k0
              obtain ⟨u, v, x0, x1, x2, x3⟩ := HC.out wr (Below.refl _ _)
              clear hwa
              go_wp2_with (first
                | (go_at_call 44; refine (HS.out _ _).mono ?_; rintro e w4 ⟨rfl, hw4⟩; subst hw4)
                | go_in)
              obtain ⟨y0, y1⟩ := HST.out wr false false (Below.refl _ _) HWA.out
              exact ⟨FIN.out _ y0 y1, by simp [intOf]⟩
            · have k10' : ((nd L x).kind == 10) = false := by simpa using k10
              by_cases k11 : (nd L x).kind = 11
              · clear k4' k7' k12' k10'
                have hwa : wayAt L (tbl L d) x = (false, false) := way_1011 (.inr k11)
                have HWA : Hid (wayAt L (tbl L d) x = (false, false)) := hwa
                rw [k11] at k0
                obtain ⟨u, v, x0, x1, x2, x3⟩ := HC.out wr (Below.refl _ _)
                clear hwa
                go_wp2_with (first
                  | (go_at_call 44; refine (HS.out _ _).mono ?_; rintro e w4 ⟨rfl, hw4⟩; subst hw4)
                  | go_in)
                obtain ⟨y0, y1⟩ := HST.out wr false false (Below.refl _ _) HWA.out
                exact ⟨FIN.out _ y0 y1, by simp [intOf]⟩
              · have k11' : ((nd L x).kind == 11) = false := by simpa using k11
                have hwa := way_any (T := tbl L d) k12 k10 k11 k4 k7
                have hst : isStmt (nd L x).kind = (decide (5 ≤ (nd L x).kind) && decide ((nd L x).kind ≤ 16)) := by unfold isStmt; rw [k4']; rfl
                rw [← hst] at hwa
                have HS' := HS.out (nd L x).kind
                cases hss : isStmt (nd L x).kind with
                | true =>
                  rw [hss] at hwa HS'
                  have HWA : Hid (wayAt L (tbl L d) x = (false, true)) := hwa
                  have HSS : Hid (∀ w, Calls Tryd.prog 44 #[.int .i64 (nd L x).kind] w fun e w' => e = .returned (.bool true) ∧ w = w') := HS'
                  obtain ⟨u, v, x0, x1, x2, x3⟩ := HC.out wr (Below.refl _ _)
                  clear hwa hst HS' hss HS
                  generalize (nd L x).kind = q at *
                  go_wp2_with (first
                    | (go_at_call 44; refine (HSS.out _).mono ?_; rintro e w4 ⟨rfl, hw4⟩; subst hw4)
                    | go_in)
                  obtain ⟨y0, y1⟩ := HST.out wr false true (Below.refl _ _) HWA.out
                  exact ⟨FIN.out _ y0 y1, by simp [intOf]⟩
                | false =>
                  rw [hss] at hwa HS'
                  have hsk := hr.out.skip hx hwa
                  have HSK : Hid (RW w.heap.size g o cap (w.heap.size + 1) L (d + 1) wr) := hsk
                  have HSS : Hid (∀ w, Calls Tryd.prog 44 #[.int .i64 (nd L x).kind] w fun e w' => e = .returned (.bool false) ∧ w = w') := HS'
                  clear hwa hst HS' hss HS hsk
                  generalize (nd L x).kind = q at *
                  go_wp2_with (first
                    | (go_at_call 44; refine (HSS.out _).mono ?_; rintro e w4 ⟨rfl, hw4⟩; subst hw4)
                    | go_in)
                  exact ⟨FIN.out _ HSK.out hB.out, by simp [intOf]⟩
    · have hd' : d = L.length := by omega
      subst hd'
      have hxx : (L.length : Int) - L.length - 1 = -1 := by omega
      rw [hxx]
      go_wp2
      go_ret
      exact ⟨⟨_, rfl, hr.out.tw⟩, BB.out.trans (hB.out.mono (by omega))⟩

end Go.Proofs.YtlocaalipjjnpaaDoor

namespace Go.Proofs.YtlocaalipjjnpaaDoor
open Go.RowKit

/-- What the reference's Check leans on. -/
structure CR (N g o cap gw : Nat) (L : List Nd) (w4 : World) : Prop where
  tc : w4.cell? ⟨N, 0, none⟩ = some (.slice (some ⟨g, o, none⟩) L.length cap)
  lay : Lay w4 g o L
  tw : Tw w4 gw L.length (tbl L L.length)
  r0 : w4.cell? ⟨N + 1, 0, none⟩ = some (.int .i64 0) ∧ w4.frozen? ⟨N + 1, 0, none⟩ = false
  r1 : w4.cell? ⟨N + 1, 1, none⟩ = some (.int .i64 0) ∧ w4.frozen? ⟨N + 1, 1, none⟩ = false
theorem CR.next {N g o cap gw : Nat} {L : List Nd} {w4 w5 : World} (h : CR N g o cap gw L w4) (hb : Below w4.heap.size w4 w5) : CR N g o cap gw L w5 := by
  have l5 := World.block_lt_of_cell? w4 _ h.tc
  have lr := World.block_lt_of_cell? w4 _ h.r0.1
  exact ⟨(hb.cell (p := ⟨N, 0, none⟩) l5).trans h.tc, h.lay.next hb, h.tw.next hb,
    ⟨(hb.cell (p := ⟨N + 1, 0, none⟩) lr).trans h.r0.1, (hb.frozen (p := ⟨N + 1, 0, none⟩) lr).trans h.r0.2⟩, ⟨(hb.cell (p := ⟨N + 1, 1, none⟩) lr).trans h.r1.1, (hb.frozen (p := ⟨N + 1, 1, none⟩) lr).trans h.r1.2⟩⟩

theorem gives_2 {L : List Nd} {T : WT} {n : Nat} {res : ByteArray} (h : (nd L n).kind = 2) : gives L T n res = (decide (res.size = 0) || (T (bodyOf L n)).1) := by unfold gives; rw [if_pos h]
theorem gives_12 {L : List Nd} {T : WT} {n : Nat} {res : ByteArray} (h : (nd L n).kind = 12) : gives L T n res = ((!decide (res.size = 0)) == decide (1 < sz L n)) := by unfold gives; rw [if_neg (by omega), if_pos h]
theorem gives_no {L : List Nd} {T : WT} {n : Nat} {res : ByteArray} (h : (nd L n).kind ≠ 2) (h' : (nd L n).kind ≠ 12) : gives L T n res = true := by unfold gives; rw [if_neg h, if_neg h']

set_option maxRecDepth 100000 in
set_option maxHeartbeats 8000000 in
theorem rcheck_yes (w : World) (g o cap : Nat) (L : List Nd) (hooks : Bool) (hf : Fine L) (h : Lay w g o L) (hk : RKw w) (hrg : Rng L) (hp : progS nameS typeS L = true) :
    Calls Tryd.prog 12 #[.agg #[.slice (some ⟨g, o, none⟩) L.length cap], .bool hooks] w fun e w' => e = .returned (.agg #[.int .i64 (chkS L hooks 0 ⟨#[]⟩).1, .int .i64 (chkS L hooks 0 ⟨#[]⟩).2]) ∧ Below w.heap.size w w' := by
  have hL := hf.len
  have hwy : Wy L := wy_of (nm := nameS) (ty := typeS) (by unfold progS at hp; simp only [Bool.and_eq_true] at hp; exact hp.1)
  have HW : Hid (Wy L) := hwy
  obtain ⟨w1, hw1, z1, B1, c0, r0, r1⟩ := chk_world w (some ⟨g, o, none⟩) L.length cap
  have BB : Hid (Below w.heap.size w w1) := B1
  have hl1 := h.next B1
  have HP : Hid (Calls Tryd.prog 29 #[.agg #[.slice (some ⟨g, o, none⟩) L.length cap]] w1 fun e w' => e = .returned (.bool true) ∧ Below w1.heap.size w1 w') := by
    have := rprogram_any w1 (some ⟨g, o, none⟩) L.length cap L ⟨hf, rfl, fun _ => ⟨g, o, rfl, hl1⟩⟩ (hk.next B1) hrg
    rwa [hp] at this
  have HN : Hid (∀ w', Below w1.heap.size w1 w' → Calls Tryd.prog 30 #[.agg #[.slice (some ⟨g, o, none⟩) L.length cap]] w' fun e w'' => (∃ gw, e = .returned (.slice (some ⟨gw, 0, none⟩) L.length L.length) ∧ Hid (Tw w'' gw L.length (tbl L L.length))) ∧ Below w'.heap.size w' w'') := fun w' hb => rways_any w' g o cap L hL hwy (hl1.next hb)
  have HL1 : Hid (Lay w1 g o L) := hl1
  obtain ⟨r, hr⟩ : ∃ r, chkS L hooks 0 ⟨#[]⟩ = r := ⟨_, rfl⟩
  have HR : Hid (chkS L hooks 0 ⟨#[]⟩ = r) := hr
  rw [hr]
  obtain ⟨ra, rb⟩ := r
  clear hr hp hk hl1 B1 h hwy hf hrg
  have zz : w.heap.size < w1.heap.size := by omega
  go_enter Tryd.func12, Tryd.ntmps12
  go_wp2_with (first
    | (go_at_call 29; refine HP.out.mono ?_; rintro e w2 ⟨rfl, hb2⟩; have d0 := (hb2.cell (p := ⟨w.heap.size, 0, none⟩) zz).trans c0)
    | (go_at_call 30; refine (HN.out w2 hb2).mono ?_; rintro e w4 ⟨⟨gw, rfl, ht⟩, hb3⟩; have b14 := hb2.trans (hb3.mono hb2.size))
    | go_in)
  have ck : CR w.heap.size g o cap gw L w4 := ⟨(b14.cell (p := ⟨w.heap.size, 0, none⟩) zz).trans c0, HL1.out.next b14, ht.out, ⟨(b14.cell (p := ⟨w.heap.size + 1, 0, none⟩) (by show w.heap.size + 1 < _; omega)).trans r0.1, (b14.frozen (p := ⟨w.heap.size + 1, 0, none⟩) (by show w.heap.size + 1 < _; omega)).trans r0.2⟩, ⟨(b14.cell (p := ⟨w.heap.size + 1, 1, none⟩) (by show w.heap.size + 1 < _; omega)).trans r1.1, (b14.frozen (p := ⟨w.heap.size + 1, 1, none⟩) (by show w.heap.size + 1 < _; omega)).trans r1.2⟩⟩
  have HCK : Hid (CR w.heap.size g o cap gw L w4) := ck
  have hN4 : w.heap.size + 1 < w4.heap.size := by have := b14.size; omega
  have B4 : Hid (Below w.heap.size w w4) := BB.out.trans (b14.mono BB.out.size)
  clear ck b14 ht HN HP HL1 r0 r1 c0 hw1 d0 hb2 hb3 BB zz z1
  have HFin : Hid (∀ (Wx : World) (c d : Int), Below w4.heap.size w4 Wx → Below w.heap.size w ((Wx.setCell ⟨w.heap.size + 1, 0, none⟩ (.int .i64 c)).setCell ⟨w.heap.size + 1, 1, none⟩ (.int .i64 d))) := fun Wx c d hx => ((B4.out.trans (hx.mono (by omega))).setCell (p := ⟨w.heap.size + 1, 0, none⟩) (by show w.heap.size ≤ w.heap.size + 1; omega) _).setCell (p := ⟨w.heap.size + 1, 1, none⟩) (by show w.heap.size ≤ w.heap.size + 1; omega) _
  go_loopw [7, 8] (fun v7 v8 wr => ∃ (k : Nat) (res : ByteArray), v7 = .string res ∧ v8 = .int .i64 (k : Int) ∧ k ≤ L.length ∧ Hid (chkS L hooks k res = (ra, rb)) ∧ Hid (Below w4.heap.size w4 wr)) (fun _ v _ => L.length - (intOf v).toNat)
  case atStart => exact ⟨0, ⟨#[]⟩, rfl, rfl, by omega, HR, Below.refl _ _⟩
  case round =>
    obtain ⟨k, res, rfl, rfl, hkL, hrr, hB⟩ := hrel
    clear HR
    have fr := HCK.out.next hB.out
    have tcr := fr.tc
    by_cases hlt : k < L.length
    · have j0 : (0 : Int) ≤ (k : Int) := by omega
      have j1 : (k : Int) < (L.length : Int) := by omega
      have i4 : IntKind.i64.wrap ((k : Int) + 1) = (k : Int) + 1 := by rw [IntKind.wrap_i64]; omega
      have cs := fr.lay.c k hlt
      have hgo := chk_go L hooks k res hlt
      rw [hrr.out] at hgo
      obtain ⟨y, hy⟩ : ∃ y, nd L k = y := ⟨_, rfl⟩
      have HY : Hid (nd L k = y) := hy
      rw [hy] at cs hgo
      have HGO : Hid ((ra, rb) = if (!hooks && hooked y) = true then (81, y.pos) else if (!gives L (tbl L L.length) k (resAt y res)) = true then (80, y.pos) else chkS L hooks (k + 1) (resAt y res)) := hgo
      clear hgo hrr hy fr
      obtain ⟨q0, q1, q2, q3, q4, q5, q6, q7, q8⟩ := y
      have e0 : wr.cell? ⟨g, o + k * 9, none⟩ = some (.int .i64 q0) := cs 0 _ rfl
      have e1 : wr.cell? ⟨g, o + k * 9 + 1, none⟩ = some (.int .i64 q1) := cs 1 _ rfl
      have e2 : wr.cell? ⟨g, o + k * 9 + 2, none⟩ = some (.string q2) := cs 2 _ rfl
      have e3 : wr.cell? ⟨g, o + k * 9 + 3, none⟩ = some (.string q3) := cs 3 _ rfl
      have e4 : wr.cell? ⟨g, o + k * 9 + 4, none⟩ = some (.string q4) := cs 4 _ rfl
      have e5 : wr.cell? ⟨g, o + k * 9 + 5, none⟩ = some (.int .i64 q5) := cs 5 _ rfl
      have e6 : wr.cell? ⟨g, o + k * 9 + 6, none⟩ = some (.int .i64 q6) := cs 6 _ rfl
      have e7 : wr.cell? ⟨g, o + k * 9 + 7, none⟩ = some (.string q7) := cs 7 _ rfl
      have e8 : wr.cell? ⟨g, o + k * 9 + 8, none⟩ = some (.int .i64 q8) := cs 8 _ rfl
      obtain ⟨wa, hwa⟩ : ∃ wa, wr.alloc (.cells #[.int .i64 q0, .int .i64 q1, .string q2, .string q3, .string q4, .int .i64 q5, .int .i64 q6, .string q7, .int .i64 q8] 39) = wa := ⟨_, rfl⟩
      have ba : Below wr.heap.size wr wa := by rw [← hwa]; exact (Below.refl _ wr).alloc (Nat.le_refl _) _
      have hBa : Below w4.heap.size w4 wa := hB.out.trans (ba.mono hB.out.size)
      have hza : wr.heap.size < wa.heap.size := by rw [← hwa]; simp
      have FX : Hid (∀ Wx, Below wa.heap.size wa Wx → CR w.heap.size g o cap gw L Wx ∧ Below w4.heap.size w4 Wx ∧ Wx.cell? ⟨wr.heap.size, 0, none⟩ = some (.int .i64 q0) ∧ Wx.cell? ⟨wr.heap.size, 1, none⟩ = some (.int .i64 q1) ∧ Wx.cell? ⟨wr.heap.size, 2, none⟩ = some (.string q2) ∧ Wx.cell? ⟨wr.heap.size, 3, none⟩ = some (.string q3) ∧ Wx.cell? ⟨wr.heap.size, 4, none⟩ = some (.string q4) ∧ Wx.cell? ⟨wr.heap.size, 5, none⟩ = some (.int .i64 q5) ∧ Wx.cell? ⟨wr.heap.size, 6, none⟩ = some (.int .i64 q6) ∧ Wx.cell? ⟨wr.heap.size, 7, none⟩ = some (.string q7) ∧ Wx.cell? ⟨wr.heap.size, 8, none⟩ = some (.int .i64 q8)) := fun Wx hx =>
        ⟨(HCK.out.next hBa).next hx, hBa.trans (hx.mono hBa.size), (hx.cell (p := ⟨wr.heap.size, 0, none⟩) hza).trans (by rw [← hwa]; exact cell_new _ _ _ _ _ rfl), (hx.cell (p := ⟨wr.heap.size, 1, none⟩) hza).trans (by rw [← hwa]; exact cell_new _ _ _ _ _ rfl), (hx.cell (p := ⟨wr.heap.size, 2, none⟩) hza).trans (by rw [← hwa]; exact cell_new _ _ _ _ _ rfl), (hx.cell (p := ⟨wr.heap.size, 3, none⟩) hza).trans (by rw [← hwa]; exact cell_new _ _ _ _ _ rfl), (hx.cell (p := ⟨wr.heap.size, 4, none⟩) hza).trans (by rw [← hwa]; exact cell_new _ _ _ _ _ rfl), (hx.cell (p := ⟨wr.heap.size, 5, none⟩) hza).trans (by rw [← hwa]; exact cell_new _ _ _ _ _ rfl), (hx.cell (p := ⟨wr.heap.size, 6, none⟩) hza).trans (by rw [← hwa]; exact cell_new _ _ _ _ _ rfl), (hx.cell (p := ⟨wr.heap.size, 7, none⟩) hza).trans (by rw [← hwa]; exact cell_new _ _ _ _ _ rfl), (hx.cell (p := ⟨wr.heap.size, 8, none⟩) hza).trans (by rw [← hwa]; exact cell_new _ _ _ _ _ rfl)⟩
      obtain ⟨fa, gA, x0, x1, x2, x3, x4, x5, x6, x7, x8⟩ := FX.out wa (Below.refl _ _)
      have a0 := fa.tc
      have a3 := fa.r0
      have a4 := fa.r1
      have hkd : Hid ((nd L k).kind = q0) := by show _ = _; rw [HY.out]
      have hsz : Hid (sz L k = q8) := by show (nd L k).size = _; rw [HY.out]
      clear cs hBa fa HY
      cases hooks with
      | true =>
        by_cases k2 : q0 = 2
        · subst k2
          have hgv := gives_2 (T := tbl L L.length) (res := q4) hkd.out
          obtain ⟨-, hb2, -, -, -⟩ := HW.out.fn k hlt hkd.out
          have hb3 := (end_int (HW.out.good k hlt)).2.2
          have hbl : bodyOf L k < L.length := by omega
          have HBd : Hid (∀ w', Below w4.heap.size w4 w' → Calls Tryd.prog 31 #[.agg #[.slice (some ⟨g, o, none⟩) L.length cap], .int .i64 (k : Int)] w' fun e w'' => e = .returned (.int .i64 (bodyOf L k : Int)) ∧ Below w'.heap.size w' w'') := fun w' hb' => rbody_any w' g o cap L k hL hlt HW.out (HCK.out.lay.next hb') hkd.out
          clear hb2 hb3 hkd hsz
          generalize hE : bodyOf L k = E at *
          clear hE
          have u0 : (0 : Int) ≤ (E : Int) := by omega
          have u1 : (E : Int) < (L.length : Int) := by omega
          have hres : resAt ⟨2, q1, q2, q3, q4, q5, q6, q7, q8⟩ res = q4 := by unfold resAt; rw [if_pos rfl]
          have hhk : hooked ⟨2, q1, q2, q3, q4, q5, q6, q7, q8⟩ = false := rfl
          rw [hres, hgv, hhk] at HGO
          clear hres hgv hhk
          by_cases hz : q4.size = 0
          · rw [decide_eq_true hz] at HGO
            obtain rfl := emp hz
            have hnx : Hid (chkS L true (k + 1) ⟨#[]⟩ = (ra, rb)) := by
              show _ = _
              have := HGO.out
              simp at this
              exact this.symm
            clear HGO
            clear hz
            go_wp2_with (first
              | (go_at_call 31; refine (HBd.out wa gA).mono ?_; rintro e wc ⟨rfl, hac⟩; obtain ⟨fc, gC, v0, v1, v2, v3, v4, v5, v6, v7, v8⟩ := FX.out wc hac; have d0 := fc.tc; have d3 := fc.r0; have d4 := fc.r1)
              | go_in)
            exact ⟨⟨k + 1, ⟨#[]⟩, rfl, by simp, by omega, hnx, gC⟩, by simp [intOf]; omega⟩
          · rw [decide_eq_false hz] at HGO
            have hq1 : q4.toList.isEmpty = false := by simpa using toL_nil hz
            have hq2 := toL_nil hz
            clear hz
            cases tb : (tbl L L.length E).1 with
            | true =>
              rw [tb] at HGO
              have hnx : Hid (chkS L true (k + 1) q4 = (ra, rb)) := by
                show _ = _
                have := HGO.out
                simp at this
                exact this.symm
              clear HGO
              go_wp2_with (first
                | (go_at_call 31; refine (HBd.out wa gA).mono ?_; rintro e wc ⟨rfl, hac⟩; obtain ⟨fc, gC, v0, v1, v2, v3, v4, v5, v6, v7, v8⟩ := FX.out wc hac; have d0 := fc.tc; have d3 := fc.r0; have d4 := fc.r1; have d5 := fc.tw.r _ hbl; rw [tb] at d5)
                | go_in)
              exact ⟨⟨k + 1, q4, rfl, by simp, by omega, hnx, gC⟩, by simp [intOf]; omega⟩
            | false =>
              rw [tb] at HGO
              obtain ⟨rfl, rfl⟩ : ra = 80 ∧ rb = q1 := by
                have := HGO.out
                simp at this
                exact this
              clear HGO
              go_wp2_with (first
                | (go_at_call 31; refine (HBd.out wa gA).mono ?_; rintro e wc ⟨rfl, hac⟩; obtain ⟨fc, gC, v0, v1, v2, v3, v4, v5, v6, v7, v8⟩ := FX.out wc hac; have d0 := fc.tc; have d3 := fc.r0; have d4 := fc.r1; have d5 := fc.tw.r _ hbl; rw [tb] at d5)
                | go_in)
              have t0 := two_set (a := .int .i64 80) (b := .int .i64 rb) d3.1 d4.1
              exact bodyPost_ret (v := .agg #[.int .i64 80, .int .i64 rb]) (by simp [results, Tryd.results12, go_sem, t0.1, t0.2]) rfl ⟨rfl, HFin.out wc 80 rb gC⟩
        · have k2' : (q0 == 2) = false := by simpa using k2
          have hres : resAt ⟨q0, q1, q2, q3, q4, q5, q6, q7, q8⟩ res = res := by unfold resAt; rw [if_neg k2]
          rw [hres] at HGO
          clear hres
          by_cases k12 : q0 = 12
          · subst k12
            have hgv := gives_12 (T := tbl L L.length) (res := res) hkd.out
            rw [hsz.out] at hgv
            rw [hgv] at HGO
            clear hgv hkd hsz k2 k2'
            by_cases hz : res.size = 0
            · rw [decide_eq_true hz] at HGO
              obtain rfl := emp hz
              clear hz
              by_cases h1 : (1 : Int) < q8
              · rw [decide_eq_true h1] at HGO
                obtain ⟨rfl, rfl⟩ : ra = 80 ∧ rb = q1 := by
                  have := HGO.out
                  simp at this
                  exact this
                clear HGO
                go_wp2
                have t0 := two_set (a := .int .i64 80) (b := .int .i64 rb) a3.1 a4.1
                exact bodyPost_ret (v := .agg #[.int .i64 80, .int .i64 rb]) (by simp [results, Tryd.results12, go_sem, t0.1, t0.2]) rfl ⟨rfl, HFin.out wa 80 rb gA⟩
              · rw [decide_eq_false h1] at HGO
                have hnx : Hid (chkS L true (k + 1) ⟨#[]⟩ = (ra, rb)) := by
                  show _ = _
                  have := HGO.out
                  simp at this
                  exact this.symm
                clear HGO
                go_wp2
                exact ⟨⟨k + 1, ⟨#[]⟩, rfl, by simp, by omega, hnx, gA⟩, by simp [intOf]; omega⟩
            · rw [decide_eq_false hz] at HGO
              have hq1 : res.toList.isEmpty = false := by simpa using toL_nil hz
              have hq2 := toL_nil hz
              clear hz
              by_cases h1 : (1 : Int) < q8
              · rw [decide_eq_true h1] at HGO
                have hnx : Hid (chkS L true (k + 1) res = (ra, rb)) := by
                  show _ = _
                  have := HGO.out
                  simp at this
                  exact this.symm
                clear HGO
                go_wp2
                exact ⟨⟨k + 1, res, rfl, by simp, by omega, hnx, gA⟩, by simp [intOf]; omega⟩
              · rw [decide_eq_false h1] at HGO
                obtain ⟨rfl, rfl⟩ : ra = 80 ∧ rb = q1 := by
                  have := HGO.out
                  simp at this
                  exact this
                clear HGO
                go_wp2
                have t0 := two_set (a := .int .i64 80) (b := .int .i64 rb) a3.1 a4.1
                exact bodyPost_ret (v := .agg #[.int .i64 80, .int .i64 rb]) (by simp [results, Tryd.results12, go_sem, t0.1, t0.2]) rfl ⟨rfl, HFin.out wa 80 rb gA⟩
          · have k12' : (q0 == 12) = false := by simpa using k12
            have hgv := gives_no (T := tbl L L.length) (res := res) (by rw [hkd.out]; exact k2) (by rw [hkd.out]; exact k12)
            rw [hgv] at HGO
            clear hgv hkd hsz
            have hnx : Hid (chkS L true (k + 1) res = (ra, rb)) := by
              show _ = _
              have := HGO.out
              simp at this
              exact this.symm
            clear HGO
            go_wp2
            exact ⟨⟨k + 1, res, rfl, by simp, by omega, hnx, gA⟩, by simp [intOf]; omega⟩
      | false =>
        by_cases k2 : q0 = 2
        · subst k2
          have hgv := gives_2 (T := tbl L L.length) (res := q4) hkd.out
          obtain ⟨-, hb2, -, -, -⟩ := HW.out.fn k hlt hkd.out
          have hb3 := (end_int (HW.out.good k hlt)).2.2
          have hbl : bodyOf L k < L.length := by omega
          have HBd : Hid (∀ w', Below w4.heap.size w4 w' → Calls Tryd.prog 31 #[.agg #[.slice (some ⟨g, o, none⟩) L.length cap], .int .i64 (k : Int)] w' fun e w'' => e = .returned (.int .i64 (bodyOf L k : Int)) ∧ Below w'.heap.size w' w'') := fun w' hb' => rbody_any w' g o cap L k hL hlt HW.out (HCK.out.lay.next hb') hkd.out
          clear hb2 hb3 hkd hsz
          generalize hE : bodyOf L k = E at *
          clear hE
          have u0 : (0 : Int) ≤ (E : Int) := by omega
          have u1 : (E : Int) < (L.length : Int) := by omega
          have hres : resAt ⟨2, q1, q2, q3, q4, q5, q6, q7, q8⟩ res = q4 := by unfold resAt; rw [if_pos rfl]
          have hhk : hooked ⟨2, q1, q2, q3, q4, q5, q6, q7, q8⟩ = false := rfl
          rw [hres, hgv, hhk] at HGO
          clear hres hgv hhk
          by_cases hz : q4.size = 0
          · rw [decide_eq_true hz] at HGO
            obtain rfl := emp hz
            have hnx : Hid (chkS L false (k + 1) ⟨#[]⟩ = (ra, rb)) := by
              show _ = _
              have := HGO.out
              simp at this
              exact this.symm
            clear HGO
            clear hz
            go_wp2_with (first
              | (go_at_call 31; refine (HBd.out wa gA).mono ?_; rintro e wc ⟨rfl, hac⟩; obtain ⟨fc, gC, v0, v1, v2, v3, v4, v5, v6, v7, v8⟩ := FX.out wc hac; have d0 := fc.tc; have d3 := fc.r0; have d4 := fc.r1)
              | go_in)
            exact ⟨⟨k + 1, ⟨#[]⟩, rfl, by simp, by omega, hnx, gC⟩, by simp [intOf]; omega⟩
          · rw [decide_eq_false hz] at HGO
            have hq1 : q4.toList.isEmpty = false := by simpa using toL_nil hz
            have hq2 := toL_nil hz
            clear hz
            cases tb : (tbl L L.length E).1 with
            | true =>
              rw [tb] at HGO
              have hnx : Hid (chkS L false (k + 1) q4 = (ra, rb)) := by
                show _ = _
                have := HGO.out
                simp at this
                exact this.symm
              clear HGO
              go_wp2_with (first
                | (go_at_call 31; refine (HBd.out wa gA).mono ?_; rintro e wc ⟨rfl, hac⟩; obtain ⟨fc, gC, v0, v1, v2, v3, v4, v5, v6, v7, v8⟩ := FX.out wc hac; have d0 := fc.tc; have d3 := fc.r0; have d4 := fc.r1; have d5 := fc.tw.r _ hbl; rw [tb] at d5)
                | go_in)
              exact ⟨⟨k + 1, q4, rfl, by simp, by omega, hnx, gC⟩, by simp [intOf]; omega⟩
            | false =>
              rw [tb] at HGO
              obtain ⟨rfl, rfl⟩ : ra = 80 ∧ rb = q1 := by
                have := HGO.out
                simp at this
                exact this
              clear HGO
              go_wp2_with (first
                | (go_at_call 31; refine (HBd.out wa gA).mono ?_; rintro e wc ⟨rfl, hac⟩; obtain ⟨fc, gC, v0, v1, v2, v3, v4, v5, v6, v7, v8⟩ := FX.out wc hac; have d0 := fc.tc; have d3 := fc.r0; have d4 := fc.r1; have d5 := fc.tw.r _ hbl; rw [tb] at d5)
                | go_in)
              have t0 := two_set (a := .int .i64 80) (b := .int .i64 rb) d3.1 d4.1
              exact bodyPost_ret (v := .agg #[.int .i64 80, .int .i64 rb]) (by simp [results, Tryd.results12, go_sem, t0.1, t0.2]) rfl ⟨rfl, HFin.out wc 80 rb gC⟩
        · have k2' : (q0 == 2) = false := by simpa using k2
          have hres : resAt ⟨q0, q1, q2, q3, q4, q5, q6, q7, q8⟩ res = res := by unfold resAt; rw [if_neg k2]
          rw [hres] at HGO
          clear hres
          by_cases k12 : q0 = 12
          · subst k12
            have hgv := gives_12 (T := tbl L L.length) (res := res) hkd.out
            rw [hsz.out] at hgv
            rw [hgv] at HGO
            clear hgv hkd hsz k2 k2'
            by_cases k6 : q6 = 0
            · subst k6
              have hhk : hooked ⟨12, q1, q2, q3, q4, q5, 0, q7, q8⟩ = false := rfl
              rw [hhk] at HGO
              clear hhk
              by_cases hz : res.size = 0
              · rw [decide_eq_true hz] at HGO
                obtain rfl := emp hz
                clear hz
                by_cases h1 : (1 : Int) < q8
                · rw [decide_eq_true h1] at HGO
                  obtain ⟨rfl, rfl⟩ : ra = 80 ∧ rb = q1 := by
                    have := HGO.out
                    simp at this
                    exact this
                  clear HGO
                  go_wp2
                  have t0 := two_set (a := .int .i64 80) (b := .int .i64 rb) a3.1 a4.1
                  exact bodyPost_ret (v := .agg #[.int .i64 80, .int .i64 rb]) (by simp [results, Tryd.results12, go_sem, t0.1, t0.2]) rfl ⟨rfl, HFin.out wa 80 rb gA⟩
                · rw [decide_eq_false h1] at HGO
                  have hnx : Hid (chkS L false (k + 1) ⟨#[]⟩ = (ra, rb)) := by
                    show _ = _
                    have := HGO.out
                    simp at this
                    exact this.symm
                  clear HGO
                  go_wp2
                  exact ⟨⟨k + 1, ⟨#[]⟩, rfl, by simp, by omega, hnx, gA⟩, by simp [intOf]; omega⟩
              · rw [decide_eq_false hz] at HGO
                have hq1 : res.toList.isEmpty = false := by simpa using toL_nil hz
                have hq2 := toL_nil hz
                clear hz
                by_cases h1 : (1 : Int) < q8
                · rw [decide_eq_true h1] at HGO
                  have hnx : Hid (chkS L false (k + 1) res = (ra, rb)) := by
                    show _ = _
                    have := HGO.out
                    simp at this
                    exact this.symm
                  clear HGO
                  go_wp2
                  exact ⟨⟨k + 1, res, rfl, by simp, by omega, hnx, gA⟩, by simp [intOf]; omega⟩
                · rw [decide_eq_false h1] at HGO
                  obtain ⟨rfl, rfl⟩ : ra = 80 ∧ rb = q1 := by
                    have := HGO.out
                    simp at this
                    exact this
                  clear HGO
                  go_wp2
                  have t0 := two_set (a := .int .i64 80) (b := .int .i64 rb) a3.1 a4.1
                  exact bodyPost_ret (v := .agg #[.int .i64 80, .int .i64 rb]) (by simp [results, Tryd.results12, go_sem, t0.1, t0.2]) rfl ⟨rfl, HFin.out wa 80 rb gA⟩
            · have hhk : hooked ⟨12, q1, q2, q3, q4, q5, q6, q7, q8⟩ = true := by simp [hooked, k6]
              rw [hhk] at HGO
              clear hhk
              have k6' : (q6 != 0) = true := by simpa using k6
              obtain ⟨rfl, rfl⟩ : ra = 81 ∧ rb = q1 := by
                have := HGO.out
                simp at this
                exact this
              clear HGO
              go_wp2
              have t0 := two_set (a := .int .i64 81) (b := .int .i64 rb) a3.1 a4.1
              exact bodyPost_ret (v := .agg #[.int .i64 81, .int .i64 rb]) (by simp [results, Tryd.results12, go_sem, t0.1, t0.2]) rfl ⟨rfl, HFin.out wa 81 rb gA⟩
          · have k12' : (q0 == 12) = false := by simpa using k12
            have hgv := gives_no (T := tbl L L.length) (res := res) (by rw [hkd.out]; exact k2) (by rw [hkd.out]; exact k12)
            rw [hgv] at HGO
            clear hgv hkd hsz
            by_cases k16 : q0 = 16
            · subst k16
              have hhk : hooked ⟨16, q1, q2, q3, q4, q5, q6, q7, q8⟩ = true := rfl
              rw [hhk] at HGO
              clear hhk
              obtain ⟨rfl, rfl⟩ : ra = 81 ∧ rb = q1 := by
                have := HGO.out
                simp at this
                exact this
              clear HGO
              go_wp2
              have t0 := two_set (a := .int .i64 81) (b := .int .i64 rb) a3.1 a4.1
              exact bodyPost_ret (v := .agg #[.int .i64 81, .int .i64 rb]) (by simp [results, Tryd.results12, go_sem, t0.1, t0.2]) rfl ⟨rfl, HFin.out wa 81 rb gA⟩
            · have k16' : (q0 == 16) = false := by simpa using k16
              have hhk : hooked ⟨q0, q1, q2, q3, q4, q5, q6, q7, q8⟩ = false := by simp [hooked, k16, k12]
              rw [hhk] at HGO
              clear hhk
              have hnx : Hid (chkS L false (k + 1) res = (ra, rb)) := by
                show _ = _
                have := HGO.out
                simp at this
                exact this.symm
              clear HGO
              go_wp2
              exact ⟨⟨k + 1, res, rfl, by simp, by omega, hnx, gA⟩, by simp [intOf]; omega⟩
    · obtain rfl : k = L.length := by omega
      have h0 := hrr.out
      rw [chk_end] at h0
      obtain ⟨rfl, rfl⟩ : ra = 0 ∧ rb = 0 := by simpa [eq_comm] using h0
      have j1 : ¬ ((L.length : Int) < (L.length : Int)) := by omega
      have a3 := fr.r0
      have a4 := fr.r1
      have HB' : Hid (Below w4.heap.size w4 wr) := hB
      clear fr h0 hrr hB
      go_wp2
      have t0 := two_set (a := .int .i64 0) (b := .int .i64 0) a3.1 a4.1
      exact bodyPost_ret (v := .agg #[.int .i64 0, .int .i64 0]) (by simp [results, Tryd.results12, go_sem, t0.1, t0.2]) rfl ⟨rfl, HFin.out wr 0 0 HB'.out⟩

set_option maxRecDepth 100000 in
set_option maxHeartbeats 1000000 in
theorem rcheck_any (w : World) (p : Option Addr) (n cap : Nat) (L : List Nd) (hooks : Bool) (h : Reads w p n L) (hk : RKw w) (hrg : Rng L) :
    Calls Tryd.prog 12 #[.agg #[.slice p n cap], .bool hooks] w fun e w' => e = .returned (.agg #[.int .i64 (checkS nameS typeS L hooks).1, .int .i64 (checkS nameS typeS L hooks).2]) ∧ Below w.heap.size w w' := by
  unfold checkS
  by_cases hp : progS nameS typeS L = true
  · rw [if_pos hp]
    have hpos : 0 < L.length := (tr_of (nm := nameS) (ty := typeS) (by unfold progS at hp; simp only [Bool.and_eq_true] at hp; exact hp.1)).pos
    obtain ⟨hf, rfl, hr⟩ := h
    obtain ⟨g, o, rfl, hl⟩ := hr (fun e => by rw [e] at hpos; simp at hpos)
    exact rcheck_yes w g o cap L hooks hf hl hk hrg hp
  · rw [if_neg hp]
    obtain ⟨w1, hw1, z1, B1, c0, r0, r1⟩ := chk_world w p n cap
    have BB : Hid (Below w.heap.size w w1) := B1
    have HP : Hid (Calls Tryd.prog 29 #[.agg #[.slice p n cap]] w1 fun e w' => e = .returned (.bool false) ∧ Below w1.heap.size w1 w') := by
      have := rprogram_any w1 p n cap L (h.next B1) (hk.next B1) hrg
      rwa [show progS nameS typeS L = false by simpa using hp] at this
    clear hp h hk B1 hrg
    go_enter Tryd.func12, Tryd.ntmps12
    go_wp2_with (first
      | (go_at_call 29; refine HP.out.mono ?_; rintro e w2 ⟨rfl, hb2⟩; have a0 := (hb2.cell (p := ⟨w.heap.size + 1, 0, none⟩) (by show w.heap.size + 1 < _; omega)).trans r0.1; have a1 := (hb2.cell (p := ⟨w.heap.size + 1, 1, none⟩) (by show w.heap.size + 1 < _; omega)).trans r1.1; have a2 := (hb2.frozen (p := ⟨w.heap.size + 1, 0, none⟩) (by show w.heap.size + 1 < _; omega)).trans r0.2; have a3 := (hb2.frozen (p := ⟨w.heap.size + 1, 1, none⟩) (by show w.heap.size + 1 < _; omega)).trans r1.2)
      | go_in)
    have t0 := two_set (a := .int .i64 30) (b := .int .i64 0) a0 a1
    exact bodyPost_ret (v := .agg #[.int .i64 30, .int .i64 0]) (by simp [results, Tryd.results12, go_sem, t0.1, t0.2]) rfl ⟨rfl, ((BB.out.trans (hb2.mono BB.out.size)).setCell (p := ⟨w.heap.size + 1, 0, none⟩) (by show w.heap.size ≤ w.heap.size + 1; omega) _).setCell (p := ⟨w.heap.size + 1, 1, none⟩) (by show w.heap.size ≤ w.heap.size + 1; omega) _⟩

end Go.Proofs.YtlocaalipjjnpaaDoor

namespace Go.Proofs.YtlocaalipjjnpaaDoor
open Go.RowKit

/-- Nodes of its own, of nine cells each, as a list in memory. -/
theorem lay_of_own {w : World} {base B cap : Nat} {L : List Nd} (h : w.ownsRow base 39 9 (.slice (some ⟨B, 0, none⟩) L.length cap) L.length (flat L)) : base ≤ B ∧ Lay w B 0 L ∧ w.there B 0 (L.length * 9) := by
  rcases h.2 with ⟨h0, _⟩ | ⟨g, c, cur, hv, hb, hg, hnc, hcm, hcs, htake⟩
  · cases h0
  · cases hv
    have hlt : B < w.heap.size := (Array.getElem?_eq_some_iff.1 hg).1
    refine ⟨hb, lay_of_range hlt fun j v hv => ?_, fun j hj => ⟨?_, ?_⟩⟩
    · have := h.cells (g := B) rfl j v hv
      rw [show (⟨B, 0, none⟩ : Addr).add j = ⟨B, j, none⟩ by by_cases hj : j = 0 <;> simp [Addr.add, hj]] at this
      rw [Nat.zero_add]
      exact this
    · simp only [World.cell?, hg]
      have : 0 + j < cur.size := by rw [hcs]; have := Nat.mul_le_mul_right 9 hnc; omega
      simp only [Nat.zero_add] at this
      simp [this]
    · simp only [World.frozen?, hg]
      simp

theorem flat_app (A B : List Nd) : flat (A ++ B) = flat A ++ flat B := List.flatMap_append
theorem flat_sing (x : Nd) : flat [x] = (ndV x).toList := by simp [flat]

/-- The small program of the law, with a number at its return. -/
def smallL (v : Int) : List Nd := [⟨1, 0, ⟨#[]⟩, ⟨#[]⟩, ⟨#[]⟩, 0, 0, ⟨#[]⟩, 4⟩, ⟨2, 0, ⟨#[109, 97, 105, 110]⟩, ⟨#[]⟩, ⟨#[]⟩, 0, 0, ⟨#[]⟩, 3⟩, ⟨4, 0, ⟨#[]⟩, ⟨#[]⟩, ⟨#[]⟩, 0, 0, ⟨#[]⟩, 2⟩, ⟨12, 0, ⟨#[]⟩, ⟨#[]⟩, ⟨#[]⟩, 0, v, ⟨#[]⟩, 1⟩]
def spareN : Nd := ⟨0, 0, ⟨#[115, 112, 97, 114, 101]⟩, ⟨#[]⟩, ⟨#[]⟩, 0, 0, ⟨#[]⟩, 0⟩

theorem range_block {W : World} {B : Nat} {l : List Value} {t : TypeId} (h : W.heap[B]? = some (.cells l.toArray t)) : W.rangeAt B 0 l := fun j v hv => by
  rw [Nat.zero_add]
  exact (cell_block h (by simpa using hv)).1
theorem there_block {W : World} {B : Nat} {l : List Value} {t : TypeId} (h : W.heap[B]? = some (.cells l.toArray t)) : W.there B 0 l.length := fun j hj => by
  rw [Nat.zero_add]
  have := cell_block (k := j) (v := l[j]) h (by simp [hj])
  exact ⟨by rw [this.1]; rfl, this.2⟩

set_option maxRecDepth 100000 in
set_option maxHeartbeats 1000000 in
theorem small_any (w : World) : Calls Tryd.prog 6 #[] w fun e w' => (∃ g, e = .returned (.agg #[.slice (some ⟨g, 0, none⟩) 4 4]) ∧ Hid (w.heap.size ≤ g ∧ Lay w' g 0 (smallL 0) ∧ w'.there g 0 36)) ∧ Below w.heap.size w w' := by
  go_enter Tryd.func6, Tryd.ntmps6
  go_wp2
  refine bodyPost_ret (v := .agg #[.slice (some ⟨w.heap.size + 1, 0, none⟩) 4 4]) (by simp [results, Tryd.results6, go_sem]) rfl ⟨⟨_, rfl, ?_⟩, ((Below.refl _ w).alloc (Nat.le_refl _) _).alloc (by simp) _⟩
  have hh : ((w.alloc (.cells #[.slice (some ⟨w.heap.size + 1, 0, none⟩) 4 4] 24)).alloc (.cells (flat (smallL 0)).toArray 39)).heap[w.heap.size + 1]? = some (.cells (flat (smallL 0)).toArray 39) := by rw [hgAlloc, if_pos (by simp)]
  exact ⟨by omega, lay_of_range (by simp) (range_block hh), there_block hh⟩

/-- Appended to an empty list of its own: a twin. -/
theorem run_dup8 (w : World) (base B : Nat) (p : Option Addr) (n cap : Nat) (S : List Nd) (h : Reads w p n S) (hp : p = none → n = 0 ∧ cap = 0) (hB : w.heap[B]? = some (.cells #[] 39)) (hb : base ≤ B) :
    ∃ v' w', (Builtin.append_ #[22, 22] 22 #[.slice (some ⟨B, 0, none⟩) 0 0, .slice p n cap]).run Tryd.prog w = .ok v' w' ∧ w'.ownsRow base 39 9 v' n (flat S) ∧ Below base w w' ∧ v' ≠ .slice none 0 0 := by
  obtain ⟨hf, rfl, hr⟩ := h
  have hL := hf.len
  have hlt : B < w.heap.size := (Array.getElem?_eq_some_iff.1 hB).1
  have ho : w.ownsRow base 39 9 (.slice (some ⟨B, 0, none⟩) 0 0) 0 [] := ⟨rfl, .inr ⟨B, 0, #[], rfl, hb, hB, Nat.le_refl _, Nat.zero_le _, rfl, rfl⟩⟩
  cases p with
  | none =>
    obtain ⟨h0, rfl⟩ := hp rfl
    have hS : S = [] := List.length_eq_zero_iff.1 h0
    subst hS
    exact ⟨_, w, by kernel_rfl, ho, Below.refl _ _, by simp⟩
  | some a =>
    have hs : ∀ (j : Nat) (v : Value), (flat S)[j]? = some v → w.cell? (a.add j) = some v := by
      by_cases hne : S = []
      · subst hne
        intro j v hv
        simp [flat] at hv
      · obtain ⟨g, o, e, hl⟩ := hr hne
        cases e
        exact fun j v hv => (flat_src hl j v hv).1
    obtain ⟨i0, hi, hz0, hz1, hz2⟩ := info_parts info36
    obtain ⟨v', w2, hrun, h2, h3, h4⟩ := run_append_own (P := Tryd.prog) w base 22 22 39 i0 _ 9 104 Tryd.underlying22 hi hz0 hz1 hz2 rfl (by decide) (.slice (some ⟨B, 0, none⟩) 0 0) 0 [] ho a S.length cap (flat S) (flat_len S)
      hs (flat_one S) (by unfold maxLen; omega) (by omega) (by omega)
    rw [Nat.zero_add, List.nil_append] at h2
    exact ⟨v', w2, hrun, h2, (Below.refl _ w).grown h3 (by omega) (own_ge ho), fun e => by have := (h4.1 e).1; cases this⟩

theorem wpList_run22 {w w' : World} {ops : Array Oper} {rest : List Oper} {o : Oper} {a : Act} {Q : Exit → Act → World → Prop} (hgd : o.guard = none) (s x : Operand)
    (ho : o.op = .call { callee := .builtin .append, args := #[s, x], argTypes := #[22, 22] }) (v u v' : Value) (hs : a.eval s = v) (hx : a.eval x = u) (ht : o.type = 22) (hr : (Builtin.append_ #[22, 22] 22 #[v, u]).run Tryd.prog w = .ok v' w')
    (h : wpList Tryd.prog ops Q rest (a.put o.dst v') w') : wpList Tryd.prog ops Q (o :: rest) a w := by
  refine wpList_plain hgd fun K hK => ?_
  unfold Oper.wp execOp
  simp only [ho, resolve, invoke, builtin, Sem.run_bind, Sem.run_pure, Result.andThen_ok, List.map_toArray, List.map_cons, List.map_nil, hs, hx, ht, hr]
  exact hK _ _ h

theorem region_out {P : Program} {id : Nat} {Q : Exit → Act → World → Prop} {a : Act} {w : World} {os : List Oper} {S : World → Prop} (hm : P.follows .mixedOrders = true)
    (h : wpAnyH P .any os.toArray (Ends Q) S os.length (Array.replicate os.length false) a w.drew) : (Code.region id os.toArray true).wp P Q a w := by
  refine wp_mono (Q := Ends Q) ?_ (fun e a w h => by obtain ⟨rfl, h⟩ := h; exact h)
  refine wp_region_any hm ?_
  have := wpAny_of_held _ _ _ _ h
  simpa using this

theorem op_app9 {w : World} {o : Oper} {a : Act} {K : Act → World → Prop} {Q : Exit → Act → World → Prop} (s x : Operand)
    (ho : o.op = .call { callee := .builtin .append, args := #[s, x], argTypes := #[22, 22] }) (base : Nat) (v : Value) (n : Nat) (l : List Nd) (hs : a.eval s = v) (hown : w.ownsRow base 39 9 v n (flat l))
    (H : Nat) (y : Nd) (hx : a.eval x = .slice (some ⟨H, 0, none⟩) 1 1) (hnews : ∀ j u, (ndV y).toList[j]? = some u → w.cell? ((⟨H, 0, none⟩ : Addr).add j) = some u) (h40 : n + 1 ≤ 1353245080301) (hbase : base ≤ w.heap.size)
    (h : ∀ v' w', w'.ownsRow base 39 9 v' (n + 1) (flat (l ++ [y])) → w.grownBy w' v.ownBlock → K (a.put o.dst v') w') : o.wp Tryd.prog a w K Q := by
  obtain ⟨i0, hi, hz0, hz1, hz2⟩ := info_parts info36
  obtain ⟨v', w', hr, h2, h3, _⟩ := run_append_own (P := Tryd.prog) w base 22 o.type 39 i0 _ 9 104 Tryd.underlying22 hi hz0 hz1 hz2 rfl (by decide) v n (flat l) hown ⟨H, 0, none⟩ 1 1 (ndV y).toList rfl hnews (by
      intro u hu
      unfold ndV at hu
      simp only [List.mem_cons, List.not_mem_nil, or_false] at hu
      rcases hu with rfl | rfl | rfl | rfl | rfl | rfl | rfl | rfl | rfl <;> rfl) (by unfold maxLen; omega) (by omega) hbase
  unfold Oper.wp execOp
  simp only [ho, resolve, invoke, builtin, Sem.run_bind, Sem.run_pure, Result.andThen_ok, List.map_toArray, List.map_cons, List.map_nil, hs, hx, hr]
  refine h v' w' ?_ h3
  rw [flat_app, flat_sing]
  exact h2

set_option maxRecDepth 100000 in
set_option maxHeartbeats 1000000 in
theorem twin_any (w : World) (p : Option Addr) (n cap : Nat) (L : List Nd) (h : Arg w p n cap L) :
    Calls Tryd.prog 11 #[.agg #[.slice p n cap]] w fun e w' => (∃ B cap', e = .returned (.agg #[.slice (some ⟨B, 0, none⟩) n cap']) ∧ Hid (w.heap.size ≤ B ∧ n + 1 ≤ cap' ∧ Lay w' B 0 (L ++ [spareN]) ∧ w'.there B 0 ((n + 1) * 9))) ∧ Below w.heap.size w w' := by
  obtain ⟨w1, hw1, z1, B1, c0⟩ : ∃ w1, ((w.alloc (.cells #[.slice p n cap] 24)).alloc (.cells #[.slice none 0 0] 24)).alloc (.cells #[] 39) = w1 ∧ w1.heap.size = w.heap.size + 3 ∧ Below w.heap.size w w1 ∧ w1.cell? ⟨w.heap.size, 0, none⟩ = some (.slice p n cap) :=
    ⟨_, rfl, by simp, (((Below.refl _ w).alloc (Nat.le_refl _) _).alloc (by simp) _).alloc (by simp; omega) _, cell_old _ (cell_old _ (cell_new _ _ _ _ _ rfl))⟩
  have hB : w1.heap[w.heap.size + 2]? = some (.cells #[] 39) := by rw [← hw1]; simp only [hgAlloc, World.size_alloc]; rw [if_pos (by first | trivial | omega)]
  have hc : w1.heap[w.heap.size + 1]? = some (.cells #[.slice none 0 0] 24) := by rw [← hw1]; simp only [hgAlloc, World.size_alloc]; rw [if_neg (by omega), if_pos (by first | trivial | omega)]
  have c1 : w1.cell? ⟨w.heap.size + 1, 0, none⟩ = some (.slice none 0 0) ∧ w1.frozen? ⟨w.heap.size + 1, 0, none⟩ = false := cell_block (k := 0) hc rfl
  obtain ⟨v1, w2, hap, ho, b2, hv⟩ := run_dup8 w1 (w.heap.size + 2) (w.heap.size + 1 + 1) p n cap L (h.reads.next B1) h.nil hB (Nat.le_refl _)
  have d0 := (b2.cell (p := ⟨w.heap.size, 0, none⟩) (by show w.heap.size < _; omega)).trans c0
  have d1 := (b2.cell (p := ⟨w.heap.size + 1, 0, none⟩) (by show w.heap.size + 1 < _; omega)).trans c1.1
  have f1 := (b2.frozen (p := ⟨w.heap.size + 1, 0, none⟩) (by show w.heap.size + 1 < _; omega)).trans c1.2
  have HO : Hid (w2.ownsRow (w.heap.size + 2) 39 9 v1 n (flat L)) := ho
  have BB : Hid (Below w.heap.size w w1) := B1
  have BB2 : Hid (Below (w.heap.size + 2) w1 w2) := b2
  have hn : n ≤ 1353245080300 := by obtain ⟨hf, rfl, _⟩ := h.reads; exact hf.len
  have HLen : Hid (L.length = n) := h.reads.2.1
  clear h ho b2 B1
  go_enter Tryd.func11, Tryd.ntmps11
  go_wp2_with (at_builtin; refine wpList_run22 (by rfl) _ _ (by rfl) _ _ v1 (by rfl) (by rfl) (by rfl) hap ?_)
  refine region_out (os := [{ dst := some 8, op := Op.move (Operand.tmp 3), type := 22, pos := "law.go:17", after := #[], guard := none },
    { dst := some 9, op := Op.build 39 #[(2, Operand.const (Value.string { data := #[115, 112, 97, 114, 101] }))], type := 39, pos := "law.go:17", after := #[], guard := none },
    { dst := some 10, op := Op.buildSlice 22 1 #[(0, Operand.tmp 9)], type := 22, pos := "law.go:17", after := #[{ on := 1, ground := Ground.data }], guard := none },
    { dst := some 11, op := Op.call { callee := Callee.builtin Builtin.append, args := #[Operand.tmp 8, Operand.tmp 10], argTypes := #[22, 22] }, type := 22, pos := "law.go:17", after := #[{ on := 0, ground := Ground.data }, { on := 2, ground := Ground.data }], guard := none },
    { dst := some 12, op := Op.fieldAddr 24 (Operand.tmp 1) 0, type := 0, pos := "law.go:17", after := #[], guard := none },
    { dst := some 13, op := Op.load 22 (Operand.tmp 12), type := 22, pos := "law.go:17", after := #[{ on := 4, ground := Ground.data }], guard := none },
    { dst := some 14, op := Op.call { callee := Callee.builtin Builtin.len, args := #[Operand.tmp 13], argTypes := #[22] }, type := 3, pos := "law.go:17", after := #[{ on := 5, ground := Ground.data }], guard := none },
    { dst := some 15, op := Op.slice 22 (Operand.tmp 11) none (some (Operand.tmp 14)) none, type := 22, pos := "law.go:17", after := #[{ on := 3, ground := Ground.data }, { on := 6, ground := Ground.data }], guard := none },
    { dst := some 16, op := Op.build 24 #[(0, Operand.tmp 15)], type := 24, pos := "law.go:17", after := #[{ on := 7, ground := Ground.data }], guard := none },
    { dst := none, op := Op.store 24 (Operand.tmp 2) (Operand.tmp 16), type := 0, pos := "law.go:17", after := #[{ on := 8, ground := Ground.data }, { on := 3, ground := Ground.chain }, { on := 0, ground := Ground.phase }, { on := 1, ground := Ground.phase }, { on := 2, ground := Ground.phase }, { on := 3, ground := Ground.phase }, { on := 4, ground := Ground.phase }, { on := 5, ground := Ground.phase }, { on := 6, ground := Ground.phase }, { on := 7, ground := Ground.phase }, { on := 8, ground := Ground.phase }], guard := none }]) (S := fun w' => w'.cell? ⟨w.heap.size, 0, none⟩ = some (.slice p n cap)) (by kernel_rfl) ?_
  have hS : w2.drew.cell? ⟨w.heap.size, 0, none⟩ = some (.slice p n cap) := d0
  refine wpAnyH_take (i := 0) (oi := { dst := some 8, op := Op.move (Operand.tmp 3), type := 22, pos := "law.go:17", after := #[], guard := none }) (v := v1) rfl (by kernel_rfl) (by kernel_rfl) (by kernel_rfl) (fun _ _ _ h => (by cases h.1)) (Or.inl ⟨by rfl, fun w' hS' => by go_simp⟩) hS ?_
  simp only [Act.put, List.setIfInBounds_toArray, List.set_cons_zero, List.set_cons_succ]
  refine wpAnyH_take (i := 1) (oi := { dst := some 9, op := Op.build 39 #[(2, Operand.const (Value.string { data := #[115, 112, 97, 114, 101] }))], type := 39, pos := "law.go:17", after := #[], guard := none }) (v := .agg #[.int .i64 0, .int .i64 0, .string ⟨#[115, 112, 97, 114, 101]⟩, .string ⟨#[]⟩, .string ⟨#[]⟩, .int .i64 0, .int .i64 0, .string ⟨#[]⟩, .int .i64 0]) rfl (by kernel_rfl) (by kernel_rfl) (by kernel_rfl) (fun _ _ _ h => (by cases h.1)) (Or.inl ⟨by rfl, fun w' hS' => by go_simp⟩) hS ?_
  simp only [Act.put, List.setIfInBounds_toArray, List.set_cons_zero, List.set_cons_succ]
  refine wpAnyH_take (i := 4) (oi := { dst := some 12, op := Op.fieldAddr 24 (Operand.tmp 1) 0, type := 0, pos := "law.go:17", after := #[], guard := none }) (v := .pointer (some ⟨w.heap.size, 0, none⟩)) rfl (by kernel_rfl) (by kernel_rfl) (by kernel_rfl) (fun _ _ _ h => (by cases h.1)) (Or.inl ⟨by rfl, fun w' hS' => by go_simp⟩) hS ?_
  simp only [Act.put, List.setIfInBounds_toArray, List.set_cons_zero, List.set_cons_succ]
  refine wpAnyH_take (i := 5) (oi := { dst := some 13, op := Op.load 22 (Operand.tmp 12), type := 22, pos := "law.go:17", after := #[{ on := 4, ground := Ground.data }], guard := none }) (v := .slice p n cap) rfl (by kernel_rfl) (by kernel_rfl) (by kernel_rfl) (fun _ _ _ h => (by cases h.1)) (Or.inl ⟨by rfl, fun w' hS' => by go_simp⟩) hS ?_
  simp only [Act.put, List.setIfInBounds_toArray, List.set_cons_zero, List.set_cons_succ]
  refine wpAnyH_take (i := 6) (oi := { dst := some 14, op := Op.call { callee := Callee.builtin Builtin.len, args := #[Operand.tmp 13], argTypes := #[22] }, type := 3, pos := "law.go:17", after := #[{ on := 5, ground := Ground.data }], guard := none }) (v := .int .i64 (n : Int)) rfl (by kernel_rfl) (by kernel_rfl) (by kernel_rfl) (fun _ _ _ h => (by cases h.1)) (Or.inl ⟨by rfl, fun w' hS' => by go_simp⟩) hS ?_
  simp only [Act.put, List.setIfInBounds_toArray, List.set_cons_zero, List.set_cons_succ]
  refine held_one (i := 2) (o := { dst := some 10, op := Op.buildSlice 22 1 #[(0, Operand.tmp 9)], type := 22, pos := "law.go:17", after := #[{ on := 1, ground := Ground.data }], guard := none }) (by kernel_rfl) rfl rfl (fun K hK => ?_)
  obtain ⟨w3, hw3⟩ : ∃ w3, w2.drew.alloc (.cells #[.int .i64 0, .int .i64 0, .string ⟨#[115, 112, 97, 114, 101]⟩, .string ⟨#[]⟩, .string ⟨#[]⟩, .int .i64 0, .int .i64 0, .string ⟨#[]⟩, .int .i64 0] 39) = w3 := ⟨_, rfl⟩
  have b3 : Below w2.heap.size w2 w3 := by rw [← hw3]; exact (Below.refl _ w2).drew.alloc (Nat.le_refl _) _
  have hs12 := BB2.out.size
  have z2 : w.heap.size + 3 ≤ w2.heap.size := by omega
  have b03 : Below (w.heap.size + 2) w2 w3 := b3.mono (by omega)
  have hS3 := (b03.cell (p := ⟨w.heap.size, 0, none⟩) (by show w.heap.size < _; omega)).trans d0
  have hh3 : w3.heap[w2.heap.size]? = some (.cells (ndV spareN) 39) := by rw [← hw3]; exact (hgAlloc _ _ _).trans (if_pos rfl)
  have ho3 : w3.ownsRow (w.heap.size + 2) 39 9 v1 n (flat L) := by rw [← hw3]; exact World.ownsRow.alloc (w := w2.drew) HO.out _
  go_simp
  refine hK _ _ hS3 ?_
  clear hK K
  refine held_one (i := 3) (o := { dst := some 11, op := Op.call { callee := Callee.builtin Builtin.append, args := #[Operand.tmp 8, Operand.tmp 10], argTypes := #[22, 22] }, type := 22, pos := "law.go:17", after := #[{ on := 0, ground := Ground.data }, { on := 2, ground := Ground.data }], guard := none }) (by kernel_rfl) rfl rfl (fun K hK => ?_)
  refine op_app9 (.tmp 8) (.tmp 10) rfl (w.heap.size + 2) v1 n L rfl ho3 w2.heap.size spareN rfl (fun j u hu => ?_) (by omega) (by have := b3.size; omega) (fun v4 w4 ho4 hg4 => ?_)
  · rw [show (⟨w2.heap.size, 0, none⟩ : Addr).add j = ⟨w2.heap.size, j, none⟩ by by_cases hj : j = 0 <;> simp [Addr.add, hj]]
    exact (cell_block hh3 (by simpa using hu)).1
  have b34 : Below (w.heap.size + 2) w3 w4 := (Below.refl _ w3).grown hg4 (by have := b3.size; omega) (own_ge ho3)
  have b24 := b03.trans b34
  obtain ⟨Bk, cp, rfl, hcp⟩ : ∃ Bk cp, v4 = .slice (some ⟨Bk, 0, none⟩) (n + 1) cp ∧ n + 1 ≤ cp := by
    rcases ho4.2 with ⟨h0, h1⟩ | ⟨g', c', cur, hv', _, _, hnc, _⟩
    · omega
    · exact ⟨g', c', hv', hnc⟩
  have hlen : (L ++ [spareN]).length = n + 1 := by simp [HLen.out]
  have hF := lay_of_own (L := L ++ [spareN]) (by rw [hlen]; exact ho4)
  rw [hlen] at hF
  have hS4 := (b24.cell (p := ⟨w.heap.size, 0, none⟩) (by show w.heap.size < _; omega)).trans d0
  have e1 := (b24.cell (p := ⟨w.heap.size + 1, 0, none⟩) (by show w.heap.size + 1 < _; omega)).trans d1
  have e2 := (b24.frozen (p := ⟨w.heap.size + 1, 0, none⟩) (by show w.heap.size + 1 < _; omega)).trans f1
  refine hK _ _ hS4 ?_
  clear hK K
  simp only [Act.put, List.setIfInBounds_toArray, List.set_cons_zero, List.set_cons_succ]
  have j0 : (0 : Int) ≤ (n : Int) := by omega
  have j1 : (n : Int) ≤ (cp : Int) := by omega
  have j2 : n ≤ cp := by omega
  refine wpAnyH_take (i := 7) (oi := { dst := some 15, op := Op.slice 22 (Operand.tmp 11) none (some (Operand.tmp 14)) none, type := 22, pos := "law.go:17", after := #[{ on := 3, ground := Ground.data }, { on := 6, ground := Ground.data }], guard := none }) (v := .slice (some ⟨Bk, 0, none⟩) n cp) rfl (by kernel_rfl) (by kernel_rfl) (by kernel_rfl) (fun _ _ _ h => (by cases h.1)) (Or.inl ⟨by rfl, fun w' hS' => by go_simp⟩) hS4 ?_
  simp only [Act.put, List.setIfInBounds_toArray, List.set_cons_zero, List.set_cons_succ]
  refine wpAnyH_take (i := 8) (oi := { dst := some 16, op := Op.build 24 #[(0, Operand.tmp 15)], type := 24, pos := "law.go:17", after := #[{ on := 7, ground := Ground.data }], guard := none }) (v := .agg #[.slice (some ⟨Bk, 0, none⟩) n cp]) rfl (by kernel_rfl) (by kernel_rfl) (by kernel_rfl) (fun _ _ _ h => (by cases h.1)) (Or.inl ⟨by rfl, fun w' hS' => by go_simp⟩) hS4 ?_
  simp only [Act.put, List.setIfInBounds_toArray, List.set_cons_zero, List.set_cons_succ]
  refine held_one (i := 9) (o := { dst := none, op := Op.store 24 (Operand.tmp 2) (Operand.tmp 16), type := 0, pos := "law.go:17", after := #[{ on := 8, ground := Ground.data }, { on := 3, ground := Ground.chain }, { on := 0, ground := Ground.phase }, { on := 1, ground := Ground.phase }, { on := 2, ground := Ground.phase }, { on := 3, ground := Ground.phase }, { on := 4, ground := Ground.phase }, { on := 5, ground := Ground.phase }, { on := 6, ground := Ground.phase }, { on := 7, ground := Ground.phase }, { on := 8, ground := Ground.phase }], guard := none }) (by kernel_rfl) rfl rfl (fun K hK => ?_)
  go_simp
  have hq : (w4.setCell ⟨w.heap.size + 1, 0, none⟩ (.slice (some ⟨Bk, 0, none⟩) n cp)).cell? ⟨w.heap.size + 1, 0, none⟩ = some (.slice (some ⟨Bk, 0, none⟩) n cp) := set_same e1 _
  have hne : ∀ {b c : Nat} {i j : Nat}, b ≠ c → (⟨b, i, none⟩ : Addr) ≠ ⟨c, j, none⟩ := fun hbc e => hbc (by cases e; rfl)
  refine hK _ _ (set_at _ hS4 (hne (by omega))) ?_
  clear hK K
  refine wpAnyH_done (by kernel_rfl) ?_ _
  refine ⟨rfl, ?_⟩
  have HFin : Hid (w.heap.size ≤ Bk ∧ n + 1 ≤ cp ∧ Lay (w4.setCell ⟨w.heap.size + 1, 0, none⟩ (.slice (some ⟨Bk, 0, none⟩) n cp)) Bk 0 (L ++ [spareN]) ∧ (w4.setCell ⟨w.heap.size + 1, 0, none⟩ (.slice (some ⟨Bk, 0, none⟩) n cp)).there Bk 0 ((n + 1) * 9)) := by
    obtain ⟨hge, hly, hth⟩ := hF
    exact ⟨by omega, hcp, hly.set _ (by omega), there_set (vs := [_]) hth _ _⟩
  have HB : Hid (Below w.heap.size w (w4.setCell ⟨w.heap.size + 1, 0, none⟩ (.slice (some ⟨Bk, 0, none⟩) n cp))) := ((BB.out.trans (BB2.out.mono (by omega))).trans (b24.mono (by omega))).setCell (p := ⟨w.heap.size + 1, 0, none⟩) (by show w.heap.size ≤ w.heap.size + 1; omega) _
  clear hF
  go_wp2
  exact bodyPost_ret (v := .agg #[.slice (some ⟨Bk, 0, none⟩) n cp]) (by simp [results, Tryd.results11, go_sem, hq]) rfl ⟨⟨_, _, rfl, HFin⟩, HB.out⟩

end Go.Proofs.YtlocaalipjjnpaaDoor

namespace Go.Proofs.YtlocaalipjjnpaaDoor
open Go.RowKit

theorem belowN (w : World) : ∀ n : Nat, Below w.heap.size w (w.drewN n)
  | 0 => Below.refl _ w
  | n + 1 => (belowN w n).drew

set_option maxRecDepth 100000 in
theorem neq9 (kd ps op it zz : Int) (nm lb ty tx : ByteArray) : ∀ w : World,
    (binOp BinOp.neq 39 (.agg #[.int .i64 kd, .int .i64 ps, .string nm, .string lb, .string ty, .int .i64 op, .int .i64 it, .string tx, .int .i64 zz]) (.agg #[.int .i64 kd, .int .i64 ps, .string nm, .string lb, .string ty, .int .i64 op, .int .i64 it, .string tx, .int .i64 zz])).run Tryd.prog w = .ok (.bool false) w := by
  intro w
  simp [go_sem]

theorem nd_pre (L : List Nd) (x : Nd) (k : Nat) (h : k < L.length) : nd (L ++ [x]) k = nd L k := by
  unfold nd
  rw [List.getD_eq_getElem?_getD, List.getD_eq_getElem?_getD, List.getElem?_append_left h]
theorem nd_last (L : List Nd) (x : Nd) : nd (L ++ [x]) L.length = x := by
  unfold nd
  simp
theorem Lay.pre {w : World} {g o : Nat} {L : List Nd} {x : Nd} (h : Lay w g o (L ++ [x])) : Lay w g o L :=
  ⟨h.lt, fun i hi j v hv => h.c i (by simp; omega) j v (by rw [nd_pre L x i hi]; exact hv)⟩

set_option maxRecDepth 100000 in
set_option maxHeartbeats 2000000 in
theorem untouched_any (w : World) (B ca : Nat) (p : Option Addr) (n cap : Nat) (L : List Nd) (h : Reads w p n L) (hl : Lay w B 0 (L ++ [spareN])) (hc : n + 1 ≤ ca) :
    Calls Tryd.prog 13 #[.agg #[.slice (some ⟨B, 0, none⟩) n ca], .agg #[.slice p n cap]] w fun e w' => e = .returned (.bool true) ∧ Below w.heap.size w w' := by
  obtain ⟨w1, hw1, z1, B1, c0, c1⟩ : ∃ w1, (w.alloc (.cells #[.slice (some ⟨B, 0, none⟩) n ca] 24)).alloc (.cells #[.slice p n cap] 24) = w1 ∧ w1.heap.size = w.heap.size + 2 ∧ Below w.heap.size w w1 ∧ w1.cell? ⟨w.heap.size, 0, none⟩ = some (.slice (some ⟨B, 0, none⟩) n ca) ∧ w1.cell? ⟨w.heap.size + 1, 0, none⟩ = some (.slice p n cap) := by
    refine ⟨_, rfl, by simp, ((Below.refl _ w).alloc (Nat.le_refl _) _).alloc (by simp) _, cell_old _ (cell_new _ _ _ _ _ rfl), ?_⟩
    exact new_cells _ _ _ 0 _ _ (by simp) rfl
  have BB : Hid (Below w.heap.size w w1) := B1
  obtain ⟨hf, hlen, hr⟩ := h.next B1
  have HR : Hid (Rd w1 p L) := hr
  have hn : n ≤ 1353245080300 := by rw [← hlen]; exact hf.len
  have HLn : Hid (L.length = n) := hlen
  have HL1 : Hid (Lay w1 B 0 (L ++ [spareN])) := hl.next B1
  have s2 : w1.cell? ⟨B, n * 9 + 2, none⟩ = some (.string ⟨#[115, 112, 97, 114, 101]⟩) := by
    have := HL1.out.c n (by simp; omega) 2 (.string ⟨#[115, 112, 97, 114, 101]⟩) (by rw [← hlen, nd_last]; rfl)
    rwa [Nat.zero_add] at this
  have S2 : Hid (w1.cell? ⟨B, n * 9 + 2, none⟩ = some (.string ⟨#[115, 112, 97, 114, 101]⟩)) := s2
  have i0 : (0 : Int) ≤ (n : Int) + 1 := by omega
  have i1 : (n : Int) + 1 ≤ (ca : Int) := by omega
  have i2 : IntKind.i64.wrap ((n : Int) + 1) = (n : Int) + 1 := by rw [IntKind.wrap_i64]; omega
  have i3 : ((n : Int) + 1).toNat = n + 1 := by omega
  clear h hl hf hr B1 s2 hlen
  go_enter Tryd.func13, Tryd.ntmps13
  go_wp2
  go_loopw [17] (fun v wr => ∃ k : Nat, k ≤ n ∧ v = .int .i64 (k : Int) ∧ Hid (Below w1.heap.size w1 wr)) (fun v _ => n - (intOf v).toNat)
  case atStart => exact ⟨0, by omega, rfl, Below.refl _ _⟩
  case round =>
    obtain ⟨k, hk, rfl, hB⟩ := hrel
    have d1 := (hB.out.cell (p := ⟨w.heap.size + 1, 0, none⟩) (by show w.heap.size + 1 < _; omega)).trans c1
    by_cases hlt : k < n
    · have j0 : (0 : Int) ≤ (k : Int) := by omega
      have j1 : (k : Int) < (n : Int) := by omega
      have j2 : (k : Int) < (n : Int) + 1 := by omega
      have hkl : k < L.length := by rw [HLn.out]; exact hlt
      obtain ⟨g', o', rfl, hl'⟩ := HR.out (fun e => by rw [e] at hkl; simp at hkl)
      have dA := (HL1.out.next hB.out).pre.c k hkl
      have dB := (hl'.next hB.out).c k hkl
      obtain ⟨x, hx⟩ : ∃ x, nd L k = x := ⟨_, rfl⟩
      rw [hx] at dA dB
      clear hx hl'
      obtain ⟨kd, ps, nm, lb, ty, op, it, tx, zz⟩ := x
      have hne := neq9 kd ps op it zz nm lb ty tx
      have a0 : wr.cell? ⟨B, k * 9, none⟩ = some (.int .i64 kd) := by have := dA 0 (.int .i64 kd) rfl; rwa [Nat.zero_add, Nat.add_zero] at this
      have a1 : wr.cell? ⟨B, k * 9 + 1, none⟩ = some (.int .i64 ps) := by have := dA 1 (.int .i64 ps) rfl; rwa [Nat.zero_add] at this
      have a2 : wr.cell? ⟨B, k * 9 + 2, none⟩ = some (.string nm) := by have := dA 2 (.string nm) rfl; rwa [Nat.zero_add] at this
      have a3 : wr.cell? ⟨B, k * 9 + 3, none⟩ = some (.string lb) := by have := dA 3 (.string lb) rfl; rwa [Nat.zero_add] at this
      have a4 : wr.cell? ⟨B, k * 9 + 4, none⟩ = some (.string ty) := by have := dA 4 (.string ty) rfl; rwa [Nat.zero_add] at this
      have a5 : wr.cell? ⟨B, k * 9 + 5, none⟩ = some (.int .i64 op) := by have := dA 5 (.int .i64 op) rfl; rwa [Nat.zero_add] at this
      have a6 : wr.cell? ⟨B, k * 9 + 6, none⟩ = some (.int .i64 it) := by have := dA 6 (.int .i64 it) rfl; rwa [Nat.zero_add] at this
      have a7 : wr.cell? ⟨B, k * 9 + 7, none⟩ = some (.string tx) := by have := dA 7 (.string tx) rfl; rwa [Nat.zero_add] at this
      have a8 : wr.cell? ⟨B, k * 9 + 8, none⟩ = some (.int .i64 zz) := by have := dA 8 (.int .i64 zz) rfl; rwa [Nat.zero_add] at this
      have b0 : wr.cell? ⟨g', o' + k * 9, none⟩ = some (.int .i64 kd) := dB 0 _ rfl
      have b1 : wr.cell? ⟨g', o' + k * 9 + 1, none⟩ = some (.int .i64 ps) := dB 1 _ rfl
      have b2 : wr.cell? ⟨g', o' + k * 9 + 2, none⟩ = some (.string nm) := dB 2 _ rfl
      have b3 : wr.cell? ⟨g', o' + k * 9 + 3, none⟩ = some (.string lb) := dB 3 _ rfl
      have b4 : wr.cell? ⟨g', o' + k * 9 + 4, none⟩ = some (.string ty) := dB 4 _ rfl
      have b5 : wr.cell? ⟨g', o' + k * 9 + 5, none⟩ = some (.int .i64 op) := dB 5 _ rfl
      have b6 : wr.cell? ⟨g', o' + k * 9 + 6, none⟩ = some (.int .i64 it) := dB 6 _ rfl
      have b7 : wr.cell? ⟨g', o' + k * 9 + 7, none⟩ = some (.string tx) := dB 7 _ rfl
      have b8 : wr.cell? ⟨g', o' + k * 9 + 8, none⟩ = some (.int .i64 zz) := dB 8 _ rfl
      clear dA dB
      go_wp2
      go_quiet (fail)
      go_wp2
      exact ⟨⟨k + 1, by omega, by go_num, hB.out.trans ((belowN wr nq).mono hB.out.size)⟩, by simp [intOf]; omega⟩
    · obtain rfl : k = n := by omega
      have j1 : ¬ ((k : Int) < (k : Int)) := by omega
      have j2 : (k : Int) < (k : Int) + 1 := by omega
      have j3 : (0 : Int) ≤ (k : Int) := by omega
      have hlB : B < w1.heap.size := World.block_lt_of_cell? w1 _ S2.out
      have s2 := (hB.out.cell (p := ⟨B, k * 9 + 2, none⟩) hlB).trans S2.out
      go_wp2
      go_ret
      exact ⟨by first | rfl | simp, BB.out.trans (hB.out.mono BB.out.size)⟩

theorem grown_set {w w' : World} {B x : Nat} {v : Value} (h : w.grownBy w' (some B)) : w.grownBy (w'.setCell ⟨B, x, none⟩ v) (some B) :=
  ⟨h.os, h.tape, h.output, by rw [size_set]; exact h.size, fun k hk hn => by
    refine Eq.trans ?_ (h.block k hk hn)
    show (w'.heap.modify B _)[k]? = _
    rw [Array.getElem?_modify]
    rw [if_neg (fun e => hn (by rw [e]))]⟩

theorem xor_le (a b : Int) : bits BinOp.xor IntKind.i64 a b ≤ 9223372036854775807 := by
  unfold bits
  rw [IntKind.wrap_i64]
  omega

/-- A node's number is another. -/
theorem turn_step {w wr : World} {B k n ca : Nat} {M : List Nd} {x : Int} (hk : k < n) (hx : x ≤ 9223372036854775807) (hB : B < w.heap.size) (hM : Fine M ∧ Rng M ∧ M.length = n ∧ Lay wr B 0 M ∧ wr.there B 0 (n * 9) ∧ w.grownBy wr (some B)) (hc : wr.cell? ⟨w.heap.size, 0, none⟩ = some (.slice (some ⟨B, 0, none⟩) n ca)) :
    ∃ M', (Fine M' ∧ Rng M' ∧ M'.length = n ∧ Lay (wr.setCell ⟨B, k * 9 + 6, none⟩ (.int .i64 x)).drew B 0 M' ∧ (wr.setCell ⟨B, k * 9 + 6, none⟩ (.int .i64 x)).drew.there B 0 (n * 9) ∧ w.grownBy (wr.setCell ⟨B, k * 9 + 6, none⟩ (.int .i64 x)).drew (some B)) ∧ (wr.setCell ⟨B, k * 9 + 6, none⟩ (.int .i64 x)).drew.cell? ⟨w.heap.size, 0, none⟩ = some (.slice (some ⟨B, 0, none⟩) n ca) := by
  obtain ⟨mf, mr, ml, my, mt, mg⟩ := hM
  have hkl : k < M.length := by omega
  obtain ⟨h1, h2⟩ := lay_put my (by rw [ml]; exact mt) k 6 (.int .i64 x) (fun y => { y with int := x }) hkl (by omega) (fun i u hu => by
    have hi : i < 9 := (Array.getElem?_eq_some_iff.1 hu).1
    have : i = 0 ∨ i = 1 ∨ i = 2 ∨ i = 3 ∨ i = 4 ∨ i = 5 ∨ i = 6 ∨ i = 7 ∨ i = 8 := by omega
    rcases this with rfl | rfl | rfl | rfl | rfl | rfl | rfl | rfl | rfl
    all_goals first
      | exact ⟨fun e => (by omega), fun _ => hu⟩
      | exact ⟨fun _ => (by simpa [ndV] using hu.symm), fun e => absurd rfl e⟩)
  have hlen : (M.modify k fun y => { y with int := x }).length = n := by simp [ml]
  rw [hlen] at h2
  refine ⟨M.modify k fun y => { y with int := x }, ⟨fine_put mf k _ hkl (fun y h => h), fun i hi => ?_, hlen, ⟨h1.lt, h1.c⟩, h2, ?_⟩, ?_⟩
  · rw [nd_modify M k i _ hkl]
    split
    · exact hx
    · exact mr i (by omega)
  · have := grown_set (x := k * 9 + 6) (v := .int .i64 x) mg
    exact ⟨this.os, this.tape, this.output, this.size, this.block⟩
  · exact set_at _ hc (fun e => by have := congrArg Addr.block e; simp only at this; omega)

set_option maxRecDepth 100000 in
set_option maxHeartbeats 2000000 in
theorem turned_any (w : World) (B n ca : Nat) (L : List Nd) (hf : Fine L) (hg : Rng L) (hlen : L.length = n) (hl : Lay w B 0 L) (ht : w.there B 0 (n * 9)) :
    Calls Tryd.prog 14 #[.agg #[.slice (some ⟨B, 0, none⟩) n ca]] w fun e w' => (∃ v, e = .returned v) ∧ (∃ L', Fine L' ∧ Rng L' ∧ L'.length = n ∧ Lay w' B 0 L') ∧ w.grownBy w' (some B) := by
  obtain ⟨w1, hw1, z1, B1, c0⟩ : ∃ w1, w.alloc (.cells #[.slice (some ⟨B, 0, none⟩) n ca] 24) = w1 ∧ w1.heap.size = w.heap.size + 1 ∧ Below w.heap.size w w1 ∧ w1.cell? ⟨w.heap.size, 0, none⟩ = some (.slice (some ⟨B, 0, none⟩) n ca) :=
    ⟨_, rfl, by simp, (Below.refl _ w).alloc (Nat.le_refl _) _, cell_new _ _ _ _ _ rfl⟩
  have hBl := hl.lt
  have hn : n ≤ 1353245080300 := by rw [← hlen]; exact hf.len
  have H0 : Hid (Fine L ∧ Rng L ∧ L.length = n ∧ Lay w1 B 0 L ∧ w1.there B 0 (n * 9) ∧ w.grownBy w1 (some B)) :=
    ⟨hf, hg, hlen, hl.next B1, fun j hj => ⟨by rw [B1.cell (by show B < _; omega)]; exact (ht j hj).1, by rw [B1.frozen (by show B < _; omega)]; exact (ht j hj).2⟩, ⟨B1.os, B1.tape, B1.output, B1.size, fun k hk _ => B1.block k hk⟩⟩
  have C0 : Hid (w1.cell? ⟨w.heap.size, 0, none⟩ = some (.slice (some ⟨B, 0, none⟩) n ca)) := c0
  clear hf hg hlen hl ht B1
  go_enter Tryd.func14, Tryd.ntmps14
  go_wp2
  clear c0
  go_loopw [6] (fun v wr => ∃ (k : Nat) (M : List Nd), k ≤ n ∧ v = .int .i64 (k : Int) ∧ Hid (Fine M ∧ Rng M ∧ M.length = n ∧ Lay wr B 0 M ∧ wr.there B 0 (n * 9) ∧ w.grownBy wr (some B)) ∧ Hid (wr.cell? ⟨w.heap.size, 0, none⟩ = some (.slice (some ⟨B, 0, none⟩) n ca))) (fun v _ => n - (intOf v).toNat)
  case atStart => exact ⟨0, L, by omega, rfl, H0, C0⟩
  case round =>
    obtain ⟨k, M, hk, rfl, hM, hc⟩ := hrel
    have c0 := hc.out
    by_cases hlt : k < n
    · have j0 : (0 : Int) ≤ (k : Int) := by omega
      have j1 : (k : Int) < (n : Int) := by omega
      obtain ⟨mf, mr, ml, my, mt, mg⟩ := hM.out
      have hkl : k < M.length := by omega
      have d0 := my.kind hkl
      have d6 : wr.cell? ⟨B, 0 + k * 9 + 6, none⟩ = some (.int .i64 (nd M k).int) := my.c k hkl 6 _ rfl
      rw [Nat.zero_add] at d0 d6
      obtain ⟨it, hit⟩ : ∃ it, (nd M k).int = it := ⟨_, rfl⟩
      rw [hit] at d6
      clear hit
      have f6 := (mt (k * 9 + 6) (by omega)).2
      rw [Nat.zero_add] at f6
      have hxl := xor_le it 1
      obtain ⟨M', hM', hc'⟩ := turn_step hlt hxl hBl hM.out hc.out
      have HM : Hid (Fine M' ∧ Rng M' ∧ M'.length = n ∧ Lay (wr.setCell ⟨B, k * 9 + 6, none⟩ (.int .i64 (bits BinOp.xor IntKind.i64 it 1))).drew B 0 M' ∧ (wr.setCell ⟨B, k * 9 + 6, none⟩ (.int .i64 (bits BinOp.xor IntKind.i64 it 1))).drew.there B 0 (n * 9) ∧ w.grownBy (wr.setCell ⟨B, k * 9 + 6, none⟩ (.int .i64 (bits BinOp.xor IntKind.i64 it 1))).drew (some B)) := hM'
      have HC' : Hid ((wr.setCell ⟨B, k * 9 + 6, none⟩ (.int .i64 (bits BinOp.xor IntKind.i64 it 1))).drew.cell? ⟨w.heap.size, 0, none⟩ = some (.slice (some ⟨B, 0, none⟩) n ca)) := hc'
      clear hM' hc' hxl mf mr ml my mt mg
      by_cases hq : (nd M k).kind = 20 ∨ (nd M k).kind = 21 ∨ (nd M k).kind = 12
      · rcases hq with hq | hq | hq
        all_goals
          rw [hq] at d0
          go_wp2
          go_region
          go_wp2
          exact ⟨⟨k + 1, M', by omega, by simp, HM, HC'⟩, by simp [intOf]; omega⟩
      · have q1 : ((nd M k).kind == 20) = false := by rw [beq_eq_false_iff_ne]; omega
        have q2 : ((nd M k).kind == 21) = false := by rw [beq_eq_false_iff_ne]; omega
        have q3 : ((nd M k).kind == 12) = false := by rw [beq_eq_false_iff_ne]; omega
        clear hq HM HC'
        generalize (nd M k).kind = q at *
        go_wp2
        exact ⟨⟨k + 1, M, by omega, by simp, hM, hc⟩, by simp [intOf]; omega⟩
    · obtain rfl : k = n := by omega
      have j1 : ¬ ((k : Int) < (k : Int)) := by omega
      go_wp2
      obtain ⟨mf, mr, ml, my, mt, mg⟩ := hM.out
      exact bodyPost_end (results_none rfl _ _ _) rfl ⟨⟨_, rfl⟩, ⟨M, mf, mr, ml, my⟩, mg⟩

end Go.Proofs.YtlocaalipjjnpaaDoor

namespace Go.Proofs.YtlocaalipjjnpaaDoor
open Go.RowKit

theorem small_fine : Fine (smallL 7) := ⟨by decide, fun i hi => by
  have : i = 0 ∨ i = 1 ∨ i = 2 ∨ i = 3 := by have : (smallL 7).length = 4 := rfl; omega
  rcases this with rfl | rfl | rfl | rfl <;> exact ⟨by decide, by decide, by decide, by decide⟩⟩
set_option maxRecDepth 100000 in
theorem small_no : checkS nameS typeS (smallL 7) false = (81, 0) := by decide +kernel
set_option maxRecDepth 100000 in
theorem small_yes : checkS nameS typeS (smallL 7) true = (0, 0) := by decide +kernel

theorem small_put {w : World} {g : Nat} (h : Lay w g 0 (smallL 0)) (ht : w.there g 0 36) : Lay (w.setCell ⟨g, 33, none⟩ (.int .i64 7)) g 0 (smallL 7) := by
  have := (lay_put h ht 3 6 (.int .i64 7) (fun y => { y with int := 7 }) (by decide) (by omega) (fun i u hu => by
    have hi : i < 9 := (Array.getElem?_eq_some_iff.1 hu).1
    have : i = 0 ∨ i = 1 ∨ i = 2 ∨ i = 3 ∨ i = 4 ∨ i = 5 ∨ i = 6 ∨ i = 7 ∨ i = 8 := by omega
    rcases this with rfl | rfl | rfl | rfl | rfl | rfl | rfl | rfl | rfl
    all_goals first
      | exact ⟨fun e => (by omega), fun _ => hu⟩
      | exact ⟨fun _ => (by simpa [ndV] using hu.symm), fun e => absurd rfl e⟩)).1
  exact this

/-- The tables lie. -/
structure Tbs (w : World) : Prop where
  kw : KwAt w
  rk : RKw w
theorem Tbs.below {w w' : World} {b : Nat} (h : Tbs w) (hb : Below b w w') (h2 : 2 ≤ b) : Tbs w' :=
  ⟨⟨fun j v hv => (hb.cell (p := ⟨1, 0 + j, none⟩) (by show 1 < b; omega)).trans (h.kw.1 j v hv), Nat.le_trans h.kw.2 hb.size⟩, fun j hj => (hb.cell (p := ⟨0, j, none⟩) (by show 0 < b; omega)).trans (h.rk j hj)⟩

theorem neq31 (a b : Int) : ∀ w : World, (binOp BinOp.neq 31 (.agg #[.int .i64 a, .int .i64 b]) (.agg #[.int .i64 a, .int .i64 b])).run Tryd.prog w = .ok (.bool false) w := by
  intro w
  simp [go_sem]
theorem eql31 (a b : Int) : ∀ w : World, (binOp BinOp.eql 31 (.agg #[.int .i64 a, .int .i64 b]) (.agg #[.int .i64 a, .int .i64 b])).run Tryd.prog w = .ok (.bool true) w := by
  intro w
  simp [go_sem]

theorem fld31 (a b : Int) : ∀ w : World, (Instr.field 31 (.agg #[.int .i64 a, .int .i64 b]) 0).run Tryd.prog w = .ok (.int .i64 a) w := fun w => by kernel_rfl

theorem deep_any (w : World) (p : Option Addr) (n cap : Nat) (L : List Nd) (h : Reads w p n L) : Calls Tryd.prog 9 #[.agg #[.slice p n cap]] w fun e w' => AnyB e ∧ Below w.heap.size w w' := by
  by_cases hn : n ≤ 65536
  · exact deep_small w p n cap hn
  · obtain ⟨hf, rfl, hr⟩ := h
    obtain ⟨g, o, rfl, hl⟩ := hr (fun e => hn (by rw [e]; exact Nat.zero_le _))
    exact deep_big w g o cap L hf.len (by omega) hl

set_option maxRecDepth 100000 in
set_option maxHeartbeats 1500000 in
theorem flowChecks_any (w : World) (p : Option Addr) (n cap : Nat) (L : List Nd) (h : Arg w p n cap L) (hg : Rng L) (hT : Tbs w) :
    Calls Tryd.prog 4 #[.agg #[.slice p n cap]] w fun e w' => e = .returned (.bool true) ∧ Below w.heap.size w w' := by
  have h2 : 2 ≤ w.heap.size := hT.kw.2
  obtain ⟨w1, hw1, z1, B1, c0⟩ : ∃ w1, w.alloc (.cells #[.slice p n cap] 24) = w1 ∧ w1.heap.size = w.heap.size + 1 ∧ Below w.heap.size w w1 ∧ w1.cell? ⟨w.heap.size, 0, none⟩ = some (.slice p n cap) :=
    ⟨_, rfl, by simp, (Below.refl _ w).alloc (Nat.le_refl _) _, cell_new _ _ _ _ _ rfl⟩
  have HA : Hid (Arg w p n cap L) := h
  have HG : Hid (Rng L) := hg
  have HT : Hid (Tbs w) := hT
  have BB : Hid (Below w.heap.size w w1) := B1
  have zz : w.heap.size < w1.heap.size := by omega
  have HK : Hid (∀ (W : World) (hooks : Bool) (q : Option Addr) (m c : Nat) (M : List Nd), Tbs W → Reads W q m M → Calls Tryd.prog 7 #[.agg #[.slice q m c], .bool hooks] W fun e w' => e = .returned (.agg #[.int .i64 (checkS nameS typeS M hooks).1, .int .i64 (checkS nameS typeS M hooks).2]) ∧ Below W.heap.size W w') := fun W hooks q m c M ht hr => check_any W q m c M hooks hr ht.kw
  clear h hg hT B1
  go_enter Tryd.func4, Tryd.ntmps4
  go_wp2_with (first
    | (go_at_call 6; refine (small_any w1).mono ?_; rintro e w2 ⟨⟨gs, rfl, hsm⟩, hb2⟩; obtain ⟨w3, hw3⟩ : ∃ w3, w2.alloc (.cells #[.slice (some ⟨gs, 0, none⟩) 4 4] 24) = w3 := ⟨_, rfl⟩; have b3 : Below w2.heap.size w2 w3 := (by rw [← hw3]; exact (Below.refl _ w2).alloc (Nat.le_refl _) _); have e0 : w3.cell? ⟨w2.heap.size, 0, none⟩ = some (.slice (some ⟨gs, 0, none⟩) 4 4) := (by rw [← hw3]; exact cell_new _ _ _ _ _ rfl); have e1 : w3.cell? ⟨gs, 33, none⟩ = some (.int .i64 0) := (b3.cell (p := ⟨gs, 33, none⟩) hsm.out.2.1.lt).trans (hsm.out.2.1.c 3 (by decide) 6 _ rfl); have e2 : w3.frozen? ⟨gs, 33, none⟩ = false := (b3.frozen (p := ⟨gs, 33, none⟩) hsm.out.2.1.lt).trans (by have := (hsm.out.2.2 33 (by omega)).2; rwa [Nat.zero_add] at this))
    | fail)
  have hgs := hsm.out.2.1.lt
  have hgs1 := hsm.out.1
  obtain ⟨w4, hw4⟩ : ∃ w4, w3.setCell ⟨gs, 33, none⟩ (.int .i64 7) = w4 := ⟨_, rfl⟩
  have B3 : Below w.heap.size w w3 := (BB.out.trans (hb2.mono BB.out.size)).trans (b3.mono (by have := hb2.size; omega))
  have B4 : Below w.heap.size w w4 := by rw [← hw4]; exact B3.setCell (p := ⟨gs, 33, none⟩) (by show w.heap.size ≤ gs; omega) _
  have z4 : w4.heap.size = w2.heap.size + 1 := by rw [← hw4, size_set, ← hw3]; simp
  have hne : ∀ {b c : Nat} {i j : Nat}, b ≠ c → (⟨b, i, none⟩ : Addr) ≠ ⟨c, j, none⟩ := fun hbc e => hbc (by cases e; rfl)
  have s4 : w4.cell? ⟨w2.heap.size, 0, none⟩ = some (.slice (some ⟨gs, 0, none⟩) 4 4) := by rw [← hw4]; exact set_at _ e0 (hne (by omega))
  have hs2 := hb2.size
  have t4 : w4.cell? ⟨w.heap.size, 0, none⟩ = some (.slice p n cap) := by
    rw [← hw4]
    exact set_at _ ((b3.cell (p := ⟨w.heap.size, 0, none⟩) (by show w.heap.size < _; omega)).trans ((hb2.cell (p := ⟨w.heap.size, 0, none⟩) zz).trans c0)) (hne (by omega))
  have rd4 : Reads w4 (some ⟨gs, 0, none⟩) 4 (smallL 7) := ⟨small_fine, rfl, fun _ => ⟨gs, 0, rfl, by
    rw [← hw4]
    exact small_put (hsm.out.2.1.next b3) (fun j hj => ⟨by rw [b3.cell (by show gs < _; omega)]; exact (hsm.out.2.2 j hj).1, by rw [b3.frozen (by show gs < _; omega)]; exact (hsm.out.2.2 j hj).2⟩)⟩⟩
  have T4 : Hid (Tbs w4) := HT.out.below B4 h2
  have K1 : Hid (Calls Tryd.prog 7 #[.agg #[.slice (some ⟨gs, 0, none⟩) 4 4], .bool false] w4 fun e w' => e = .returned (.agg #[.int .i64 81, .int .i64 0]) ∧ Below w4.heap.size w4 w') := by
    have := HK.out w4 false (some ⟨gs, 0, none⟩) 4 4 (smallL 7) T4.out rd4
    rwa [small_no] at this
  have K2 : Hid (∀ w', Below w4.heap.size w4 w' → Calls Tryd.prog 7 #[.agg #[.slice (some ⟨gs, 0, none⟩) 4 4], .bool true] w' fun e w'' => e = .returned (.agg #[.int .i64 0, .int .i64 0]) ∧ Below w'.heap.size w' w'') := fun w' hb => by
    have := HK.out w' true (some ⟨gs, 0, none⟩) 4 4 (smallL 7) (T4.out.below hb (by omega)) (rd4.next hb)
    rwa [small_yes] at this
  have HD : Hid (∀ w', Below w4.heap.size w4 w' → Calls Tryd.prog 9 #[.agg #[.slice p n cap]] w' fun e w'' => AnyB e ∧ Below w'.heap.size w' w'') := fun w' hb => deep_any w' p n cap L ((HA.out.reads.next B4).next hb)
  have BB4 : Hid (Below w.heap.size w w4) := B4
  have l1 : w2.heap.size < w4.heap.size := by omega
  have l2 : w.heap.size < w4.heap.size := by omega
  have fd1 := fld31 81 0
  have fd2 := fld31 0 0
  rw [hw4]
  clear hsm e0 e1 e2 hw3 hw4 b3 B3 B4 rd4 hb2 c0 hw1 hs2
  go_wp2_with (first
    | (go_at_call 7; first
        | (refine (K2.out w5 hb5).mono ?_; rintro e w6 ⟨rfl, hb6⟩; have hb46 := hb5.trans (hb6.mono hb5.size); have t6 := (hb46.cell (p := ⟨w.heap.size, 0, none⟩) l2).trans t4)
        | (refine K1.out.mono ?_; rintro e w5 ⟨rfl, hb5⟩; have s5 := (hb5.cell (p := ⟨w2.heap.size, 0, none⟩) l1).trans s4))
    | (go_at_call 9; refine (HD.out w6 hb46).mono ?_; rintro e w7 ⟨⟨b, rfl⟩, hb7⟩; have hb47 := hb46.trans (hb7.mono hb46.size); have t7 := (hb47.cell (p := ⟨w.heap.size, 0, none⟩) l2).trans t4)
    | fail)
  · go_ret
    exact ⟨rfl, BB4.out.trans (hb47.mono (by omega))⟩
  have B7 : Below w.heap.size w w7 := BB4.out.trans (hb47.mono (by omega))
  have A7 : Arg w7 p n cap L := HA.out.next B7
  have T7 : Tbs w7 := HT.out.below B7 h2
  have hz7 : w.heap.size < w7.heap.size := by have := hb47.size; omega
  clear K1 K2 HD T4 BB4 fd1 fd2 hb47 hb7 hb46 hb6 hb5 s4 t4 t6 s5 l1 l2 z4 hgs hgs1 BB zz z1
  refine (twin_any w7 p n cap L A7).mono ?_
  rintro e w8 ⟨⟨B, ca, rfl, htw⟩, hb8⟩
  obtain ⟨w9, hw9⟩ : ∃ w9, w8.alloc (.cells #[.slice (some ⟨B, 0, none⟩) n ca] 24) = w9 := ⟨_, rfl⟩
  have b9 : Below w8.heap.size w8 w9 := by rw [← hw9]; exact (Below.refl _ w8).alloc (Nat.le_refl _) _
  have z9 : w9.heap.size = w8.heap.size + 1 := by rw [← hw9]; simp
  have b79 := hb8.trans (b9.mono hb8.size)
  have hs8 := hb8.size
  obtain ⟨tB, tc, tl, tt⟩ := htw.out
  have hB8 : B < w8.heap.size := tl.lt
  have a9 : w9.cell? ⟨w8.heap.size, 0, none⟩ = some (.slice (some ⟨B, 0, none⟩) n ca) := by rw [← hw9]; exact cell_new _ _ _ _ _ rfl
  have t9 := (b79.cell (p := ⟨w.heap.size, 0, none⟩) hz7).trans t7
  have L9 : Lay w9 B 0 (L ++ [spareN]) := tl.next b9
  have R9 : Reads w9 p n L := A7.reads.next b79
  have RB : Reads w9 (some ⟨B, 0, none⟩) n L := ⟨R9.1, R9.2.1, fun _ => ⟨B, 0, rfl, L9.pre⟩⟩
  have T9 : Tbs w9 := T7.below b79 (by omega)
  have TT9 : w9.there B 0 (n * 9) := fun j hj => ⟨by rw [b9.cell (by show B < _; omega)]; exact (tt j (by omega)).1, by rw [b9.frozen (by show B < _; omega)]; exact (tt j (by omega)).2⟩
  have B9 : Below w.heap.size w w9 := B7.trans (b79.mono (by omega))
  have H9 : Hid (Lay w9 B 0 (L ++ [spareN]) ∧ Reads w9 p n L ∧ Tbs w9 ∧ w9.there B 0 (n * 9) ∧ Below w.heap.size w w9) := ⟨L9, R9, T9, TT9, B9⟩
  have hne9 : B ≠ w8.heap.size := by omega
  have hB0 : w.heap.size ≤ B := by omega
  obtain ⟨x1, x2, hx⟩ : ∃ x1 x2, checkS nameS typeS L false = (x1, x2) := ⟨_, _, rfl⟩
  obtain ⟨y1, y2, hy⟩ : ∃ y1 y2, checkS nameS typeS L true = (y1, y2) := ⟨_, _, rfl⟩
  have c7f : ∀ d os, Calls Tryd.prog 7 #[.agg #[.slice (some ⟨B, 0, none⟩) n ca], .bool false] (Sort.grow (redrawn w9 d) os) fun e w'' => e = .returned (.agg #[.int .i64 x1, .int .i64 x2]) ∧ ∃ z : Regrown, w'' = Sort.grow (redrawn w9 z.d) z.os := fun d os => by
    have := check_any _ _ n ca L false (RB.next (below_regrown w9 d os)) (T9.below (below_regrown w9 d os) (by omega)).kw
    rw [hx] at this
    exact Calls.regrown_of this
  have c7t : ∀ d os, Calls Tryd.prog 7 #[.agg #[.slice (some ⟨B, 0, none⟩) n ca], .bool true] (Sort.grow (redrawn w9 d) os) fun e w'' => e = .returned (.agg #[.int .i64 y1, .int .i64 y2]) ∧ ∃ z : Regrown, w'' = Sort.grow (redrawn w9 z.d) z.os := fun d os => by
    have := check_any _ _ n ca L true (RB.next (below_regrown w9 d os)) (T9.below (below_regrown w9 d os) (by omega)).kw
    rw [hy] at this
    exact Calls.regrown_of this
  have c12f : ∀ d os, Calls Tryd.prog 12 #[.agg #[.slice p n cap], .bool false] (Sort.grow (redrawn w9 d) os) fun e w'' => e = .returned (.agg #[.int .i64 x1, .int .i64 x2]) ∧ ∃ z : Regrown, w'' = Sort.grow (redrawn w9 z.d) z.os := fun d os => by
    have := rcheck_any _ _ n cap L false (R9.next (below_regrown w9 d os)) (T9.below (below_regrown w9 d os) (by omega)).rk HG.out
    rw [hx] at this
    exact Calls.regrown_of this
  have c12t : ∀ d os, Calls Tryd.prog 12 #[.agg #[.slice p n cap], .bool true] (Sort.grow (redrawn w9 d) os) fun e w'' => e = .returned (.agg #[.int .i64 y1, .int .i64 y2]) ∧ ∃ z : Regrown, w'' = Sort.grow (redrawn w9 z.d) z.os := fun d os => by
    have := rcheck_any _ _ n cap L true (R9.next (below_regrown w9 d os)) (T9.below (below_regrown w9 d os) (by omega)).rk HG.out
    rw [hy] at this
    exact Calls.regrown_of this
  have c13 : ∀ d os, Calls Tryd.prog 13 #[.agg #[.slice (some ⟨B, 0, none⟩) n ca], .agg #[.slice p n cap]] (Sort.grow (redrawn w9 d) os) fun e w'' => e = .returned (.bool true) ∧ ∃ z : Regrown, w'' = Sort.grow (redrawn w9 z.d) z.os := fun d os =>
    Calls.regrown_of (untouched_any _ B ca p n cap L (R9.next (below_regrown w9 d os)) (L9.next (below_regrown w9 d os)) tc)
  have k0 := cell_regrown a9
  have k1 := cell_regrown t9
  have n1 := neq31 x1 x2
  have n2 := neq31 y1 y2
  clear hx hy htw tl tt L9 R9 RB T9 TT9 B9 A7 T7 B7 b9 b79 hb8 t7 t9
  go_wp2_with fail
  refine wp_region_quiet_below (by kernel_rfl) (by kernel_rfl) ?_
  repeat (first | go_big_quiet_step (first | with_reducible exact c7f _ _ | with_reducible exact c7t _ _ | with_reducible exact c12f _ _ | with_reducible exact c12t _ _ | with_reducible exact c13 _ _) | quiet_step (first | with_reducible exact c7f _ _ | with_reducible exact c7t _ _ | with_reducible exact c12f _ _ | with_reducible exact c12t _ _ | with_reducible exact c13 _ _))
  refine wpQuiet_nil ?_
  intro _ hw'
  obtain ⟨⟨dq, osq⟩, hw''⟩ := hw'
  subst hw''
  have hY := below_regrown w9 dq osq
  change Exit.then _ _ Exit.normal _ (Sort.grow (redrawn w9 dq) osq)
  generalize Sort.grow (redrawn w9 dq) osq = wY at hY ⊢
  clear k0 k1 n1 n2 c7f c7t c12f c12t c13
  obtain ⟨L9, R9, T9, TT9, B9⟩ := H9.out
  have aY := (hY.cell (p := ⟨w8.heap.size, 0, none⟩) (by show w8.heap.size < _; omega)).trans a9
  have BY : Below w.heap.size w wY := B9.trans (hY.mono (by omega))
  have hsY := hY.size
  have HTU : Hid (Calls Tryd.prog 14 #[.agg #[.slice (some ⟨B, 0, none⟩) n ca]] wY fun e w' => (∃ v, e = .returned v) ∧ (∃ L', Fine L' ∧ Rng L' ∧ L'.length = n ∧ Lay w' B 0 L') ∧ wY.grownBy w' (some B)) :=
    turned_any wY B n ca L R9.1 HG.out R9.2.1 (L9.pre.next hY) (fun j hj => ⟨by rw [hY.cell (by show B < _; omega)]; exact (TT9 j hj).1, by rw [hY.frozen (by show B < _; omega)]; exact (TT9 j hj).2⟩)
  have HBY : Hid (Below w.heap.size w wY) := BY
  clear hY L9 R9 T9 TT9 B9 BY a9 hw9
  go_wp2_with (first
    | (go_at_call 14; refine HTU.out.mono ?_; rintro e w10 ⟨⟨v10, rfl⟩, ⟨L', f', r', l', y'⟩, g10⟩; have a10 := (World.cell?_of_block (a := ⟨w8.heap.size, 0, none⟩) (g10.block w8.heap.size (by omega) (fun e => hne9 (by cases e; rfl)))).trans aY)
    | fail)
  have B10 : Below w.heap.size w w10 := HBY.out.grown g10 (by have := HBY.out.size; omega) (fun k e => by cases e; exact hB0)
  have T10 : Tbs w10 := HT.out.below B10 h2
  have l10 : w8.heap.size < w10.heap.size := by have := g10.size; omega
  have A10 : Arg w10 (some ⟨B, 0, none⟩) n ca L' := ⟨⟨f', l', fun _ => ⟨B, 0, rfl, y'⟩⟩, fun e => by cases e⟩
  have hs10 := B10.size
  refine (twin_any w10 (some ⟨B, 0, none⟩) n ca L' A10).mono ?_
  rintro e w11 ⟨⟨B2, cb, rfl, htw⟩, hb11⟩
  obtain ⟨w12, hw12⟩ : ∃ w12, w11.alloc (.cells #[.slice (some ⟨B2, 0, none⟩) n cb] 24) = w12 := ⟨_, rfl⟩
  have b12 : Below w11.heap.size w11 w12 := by rw [← hw12]; exact (Below.refl _ w11).alloc (Nat.le_refl _) _
  have b1012 := hb11.trans (b12.mono hb11.size)
  have hs11 := hb11.size
  have hs12' := b1012.size
  have e12 : w12.cell? ⟨w11.heap.size, 0, none⟩ = some (.slice (some ⟨B2, 0, none⟩) n cb) := by rw [← hw12]; exact cell_new _ _ _ _ _ rfl
  have a12 := (b1012.cell (p := ⟨w8.heap.size, 0, none⟩) l10).trans a10
  have R12 : Reads w12 (some ⟨B, 0, none⟩) n L' := A10.reads.next b1012
  have Q12 : Reads w12 (some ⟨B2, 0, none⟩) n L' := ⟨f', l', fun _ => ⟨B2, 0, rfl, (htw.out.2.2.1.next b12).pre⟩⟩
  have T12 : Tbs w12 := T10.below b1012 (by omega)
  have HB12 : Hid (Below w.heap.size w w12) := B10.trans (b1012.mono (by omega))
  obtain ⟨x1, x2, hx⟩ : ∃ x1 x2, checkS nameS typeS L' false = (x1, x2) := ⟨_, _, rfl⟩
  obtain ⟨y1, y2, hy⟩ : ∃ y1 y2, checkS nameS typeS L' true = (y1, y2) := ⟨_, _, rfl⟩
  have c7f : ∀ d os, Calls Tryd.prog 7 #[.agg #[.slice (some ⟨B, 0, none⟩) n ca], .bool false] (Sort.grow (redrawn w12 d) os) fun e w'' => e = .returned (.agg #[.int .i64 x1, .int .i64 x2]) ∧ ∃ z : Regrown, w'' = Sort.grow (redrawn w12 z.d) z.os := fun d os => by
    have := check_any _ _ n ca L' false (R12.next (below_regrown w12 d os)) (T12.below (below_regrown w12 d os) (by omega)).kw
    rw [hx] at this
    exact Calls.regrown_of this
  have c7t : ∀ d os, Calls Tryd.prog 7 #[.agg #[.slice (some ⟨B, 0, none⟩) n ca], .bool true] (Sort.grow (redrawn w12 d) os) fun e w'' => e = .returned (.agg #[.int .i64 y1, .int .i64 y2]) ∧ ∃ z : Regrown, w'' = Sort.grow (redrawn w12 z.d) z.os := fun d os => by
    have := check_any _ _ n ca L' true (R12.next (below_regrown w12 d os)) (T12.below (below_regrown w12 d os) (by omega)).kw
    rw [hy] at this
    exact Calls.regrown_of this
  have c12f : ∀ d os, Calls Tryd.prog 12 #[.agg #[.slice (some ⟨B2, 0, none⟩) n cb], .bool false] (Sort.grow (redrawn w12 d) os) fun e w'' => e = .returned (.agg #[.int .i64 x1, .int .i64 x2]) ∧ ∃ z : Regrown, w'' = Sort.grow (redrawn w12 z.d) z.os := fun d os => by
    have := rcheck_any _ _ n cb L' false (Q12.next (below_regrown w12 d os)) (T12.below (below_regrown w12 d os) (by omega)).rk r'
    rw [hx] at this
    exact Calls.regrown_of this
  have c12t : ∀ d os, Calls Tryd.prog 12 #[.agg #[.slice (some ⟨B2, 0, none⟩) n cb], .bool true] (Sort.grow (redrawn w12 d) os) fun e w'' => e = .returned (.agg #[.int .i64 y1, .int .i64 y2]) ∧ ∃ z : Regrown, w'' = Sort.grow (redrawn w12 z.d) z.os := fun d os => by
    have := rcheck_any _ _ n cb L' true (Q12.next (below_regrown w12 d os)) (T12.below (below_regrown w12 d os) (by omega)).rk r'
    rw [hy] at this
    exact Calls.regrown_of this
  have k0 := cell_regrown a12
  have k1 := cell_regrown e12
  have n1 := eql31 x1 x2
  have n2 := eql31 y1 y2
  clear hx hy htw R12 Q12 T12 A10 T10 B10 b12 b1012 hb11 a12 a10 aY g10 y' l' r' f' HTU
  go_wp2_with fail
  refine wp_region_quiet_below (by kernel_rfl) (by kernel_rfl) ?_
  repeat (first | go_big_quiet_step (first | with_reducible exact c7f _ _ | with_reducible exact c7t _ _ | with_reducible exact c12f _ _ | with_reducible exact c12t _ _) | quiet_step (first | with_reducible exact c7f _ _ | with_reducible exact c7t _ _ | with_reducible exact c12f _ _ | with_reducible exact c12t _ _))
  refine wpQuiet_nil ?_
  intro _ hw'
  obtain ⟨⟨dq, osq⟩, hw''⟩ := hw'
  subst hw''
  have hY := below_regrown w12 dq osq
  change Exit.then _ _ Exit.normal _ (Sort.grow (redrawn w12 dq) osq)
  generalize Sort.grow (redrawn w12 dq) osq = wZ at hY ⊢
  clear k0 k1 n1 n2 c7f c7t c12f c12t
  have hs12 := HB12.out.size
  go_wp2
  go_ret
  exact ⟨rfl, HB12.out.trans (hY.mono (by omega))⟩

end Go.Proofs.YtlocaalipjjnpaaDoor
