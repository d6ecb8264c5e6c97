import Derived.Test.YtchinflkjcebjabGreatDoorCSf
namespace Go.Proofs.YtchinflkjcebjabGreatDoor
open Go.RowKit

/-- A row of words. -/
structure Wds (w : World) (B : Nat) (q : Option Addr) (n cap : Nat) (ws : List Bs) : Prop where
  len : n = ws.length
  le : n ≤ cap
  row : Row w B q n (wV ws)
  sz : ∀ x ∈ ws, x.length ≤ 281474976710656
  big : ws.length ≤ 1000
theorem Wds.below {w w' : World} {B D : Nat} {q : Option Addr} {n cap : Nat} {ws : List Bs} (h : Wds w B q n cap ws) (hb : Below D w w') (hD : B ≤ D) : Wds w' B q n cap ws := ⟨h.len, h.le, h.row.below hb hD, h.sz, h.big⟩
theorem Wds.up {w : World} {B C : Nat} {q : Option Addr} {n cap : Nat} {ws : List Bs} (h : Wds w B q n cap ws) (hC : B ≤ C) : Wds w C q n cap ws := ⟨h.len, h.le, h.row.up hC, h.sz, h.big⟩
theorem Wds.nil (w : World) (B : Nat) : Wds w B none 0 0 [] := ⟨rfl, Nat.le_refl _, fun h => by omega, by simp, by simp⟩
theorem wV_get (ws : List Bs) (i : Nat) (hi : i < ws.length) : (wV ws)[i]? = some (.string (YtchinflkjcebjabGreatDoor.bk (wAt ws i))) := by
  unfold wV tv wAt
  rw [List.getElem?_map, List.getElem?_map, List.getElem?_eq_getElem hi, List.getD_eq_getElem?_getD, List.getElem?_eq_getElem hi]
  rfl
theorem Wds.at {w : World} {B : Nat} {q : Option Addr} {n cap : Nat} {ws : List Bs} (h : Wds w B q n cap ws) (i : Nat) (hi : i < n) : ∃ g o, q = some ⟨g, o, none⟩ ∧ g < B ∧ w.cell? ⟨g, o + i, none⟩ = some (.string (YtchinflkjcebjabGreatDoor.bk (wAt ws i))) := by
  obtain ⟨g, o, h1, h2, h3⟩ := row_get h.row i hi
  exact ⟨g, o, h1, h2, h3 i _ (wV_get ws i (by rw [← h.len]; exact hi))⟩
/-- What lies behind the first k words. -/
def cutQ (q : Option Addr) (k cap : Nat) : Option Addr := if cap = k then q else q.map (·.add (k * 1))
theorem Wds.drop {w : World} {B : Nat} {q : Option Addr} {n cap : Nat} {ws : List Bs} (h : Wds w B q n cap ws) (k : Nat) (hk : k ≤ n) : Wds w B (cutQ q k cap) (n - k) (cap - k) (ws.drop k) := by
  refine ⟨by rw [h.len, List.length_drop], by have := h.le; omega, fun hn => ?_, fun x hx => h.sz x (List.mem_of_mem_drop hx), by have := h.big; rw [List.length_drop]; omega⟩
  obtain ⟨g, o, rfl, h2, h3⟩ := h.row (by omega)
  have hc : ¬ cap = k := by have := h.le; omega
  refine ⟨g, o + k, ?_, h2, fun j v hv => ?_⟩
  · unfold cutQ
    rw [if_neg hc]
    by_cases h0 : k = 0
    · subst h0; simp [Addr.add]
    · simp [Addr.add, h0]
  · have e : (wV ws)[k + j]? = some v := by
      rw [← hv]
      unfold wV tv
      rw [List.getElem?_map, List.getElem?_map, List.getElem?_map, List.getElem?_map, List.getElem?_drop]
    rw [Nat.add_assoc]
    exact h3 (k + j) v e
set_option maxRecDepth 100000 in
theorem cut_run (q : Option Addr) (n cap k : Nat) (hk : k ≤ n) : ∀ w : World, (Instr.slice 24 (.slice q n cap) (some (.int .i64 (k : Int))) none none).run Tryz.prog w = .ok (.slice (cutQ q k cap) (n - k) (cap - k)) w := fun w => by
  have hu := Tryz.underlying24
  rw [run_slice_l (kl := .i64) (l := (k : Int)) (h0 := by omega) (h1 := by omega)]
  · have : ((sizeOf (Tryz.prog.elem 24)).run Tryz.prog w) = .ok 1 w := by kernel_rfl
    rw [this]
    simp [sliced, cutQ]
  · exact hu.trans (by kernel_rfl)
theorem nextO_c (o : Nat) (ho : o ≠ 0) (w : Bs) (r : List Bs) : nextO o (w :: r) = match readO o w with | some n => some (n, r) | none => none := by unfold nextO; rw [if_neg ho]; rfl
set_option maxRecDepth 100000 in
set_option maxHeartbeats 2000000 in
theorem next_any (o : Nat) (ho : o < 13) (w : World) (q : Option Addr) (n cap : Nat) (ws : List Bs) (ht : Tabs w) (h : Wds w w.heap.size q n cap ws) :
    Calls Tryz.prog 120 #[.int .i64 (o : Int), .slice q n cap] w fun e w' => ∃ (n' : Int) (q' : Option Addr) (m cap' : Nat), e = .returned (.tuple #[.int .i64 n', .slice q' m cap', .bool (nextO o ws).isSome]) ∧ Hid ((∃ r : List Bs, Wds w w.heap.size q' m cap' r ∧ ∀ a r0, nextO o ws = some (a, r0) → n' = a ∧ r = r0) ∧ Below w.heap.size w w') := by
  obtain ⟨R, HR⟩ : ∃ R, Hid (R = nextO o ws) := ⟨_, rfl⟩
  rw [← HR.out]
  obtain ⟨B, HB⟩ : ∃ B : Bool, Hid (B = R.isSome) := ⟨_, rfl⟩
  rw [← HB.out]
  have HH : Hid (Wds w w.heap.size q n cap ws) := h
  by_cases h0 : o = 0
  · have HF : Hid (R = some (0, ws)) := by show R = _; rw [HR.out]; unfold nextO; rw [if_pos h0]
    have hBf : B = true := by rw [HB.out, HF.out]; rfl
    have t0 : ((o : Int) == 0) = true := by rw [beq_iff_eq]; omega
    subst hBf
    clear h ht HR h0
    go_enter Tryz.func120, Tryz.ntmps120
    go_wp2
    refine bodyPost_ret (v := .tuple #[.int .i64 0, .slice q n cap, .bool true]) (by simp [results, Tryz.results120, go_sem]) rfl ⟨0, q, n, cap, rfl, ⟨ws, HH.out, ?_⟩, Below.refl _ _⟩
    intro a r0 e
    rw [HF.out] at e
    cases e
    exact ⟨rfl, rfl⟩
  have t0 : ((o : Int) == 0) = false := by rw [beq_eq_false_iff_ne]; omega
  rcases Nat.eq_zero_or_pos n with hn | hn
  · have HF : Hid (R = none) := by
      show R = _
      have e : ws = [] := List.length_eq_zero_iff.1 (by rw [← h.len]; exact hn)
      rw [HR.out, e]
      unfold nextO
      rw [if_neg h0]
    have hBf : B = false := by rw [HB.out, HF.out]; rfl
    have t1 : ((n : Int) == 0) = true := by rw [beq_iff_eq]; omega
    subst hBf
    clear h ht HR h0 hn
    go_enter Tryz.func120, Tryz.ntmps120
    go_wp2
    refine bodyPost_ret (v := .tuple #[.int .i64 0, .slice none 0 0, .bool false]) (by simp [results, Tryz.results120, go_sem]) rfl ⟨0, none, 0, 0, rfl, ⟨[], Wds.nil _ _, ?_⟩, Below.refl _ _⟩
    intro a r0 e
    rw [HF.out] at e
    cases e
  have t1 : ((n : Int) == 0) = false := by rw [beq_eq_false_iff_ne]; omega
  have n0 : (0 : Int) < (n : Int) := by omega
  obtain ⟨g, p, rfl, hg, c0⟩ := h.at 0 hn
  rw [Nat.add_zero] at c0
  have HD := h.drop 1 hn
  have hsl : ∀ w : World, (Instr.slice 24 (.slice (some ⟨g, p, none⟩) n cap) (some (.int .i64 1)) none none).run Tryz.prog w = .ok (.slice (cutQ (some ⟨g, p, none⟩) 1 cap) (n - 1) (cap - 1)) w := cut_run (some ⟨g, p, none⟩) n cap 1 hn
  have hws : ws = wAt ws 0 :: ws.drop 1 := by
    have hl : 0 < ws.length := by rw [← h.len]; exact hn
    obtain ⟨x, r, rfl⟩ := List.exists_cons_of_length_pos hl
    rfl
  have HF : Hid (R = match readO o (wAt ws 0) with | some n => some (n, ws.drop 1) | none => none) := by
    show R = _
    rw [HR.out]
    conv => lhs; rw [hws]
    exact nextO_c o h0 _ _
  have hsz : (wAt ws 0).length ≤ 281474976710656 := h.sz _ (by
    have hl : 0 < ws.length := by rw [← h.len]; exact hn
    obtain ⟨x, r, rfl⟩ := List.exists_cons_of_length_pos hl
    exact List.mem_cons_self)
  have HRd := read_any o (YtchinflkjcebjabGreatDoor.bk (wAt ws 0)) w ht ho (by rw [bk_size]; exact hsz)
  have hlb : lt (YtchinflkjcebjabGreatDoor.bk (wAt ws 0)) = wAt ws 0 := bk_data _
  rw [hlb] at HRd
  have HDH : Hid (Wds w w.heap.size (cutQ (some ⟨g, p, none⟩) 1 cap) (n - 1) (cap - 1) (ws.drop 1)) := HD
  have hBs : B = (readO o (wAt ws 0)).isSome := by
    rw [HB.out, HF.out]
    cases readO o (wAt ws 0) <;> rfl
  obtain ⟨RR, HRR⟩ : ∃ RR, Hid (RR = readO o (wAt ws 0)) := ⟨_, rfl⟩
  rw [← HRR.out] at hBs HRd HF
  rw [← hBs] at HRd
  have HBs : Hid (B = RR.isSome) := hBs
  clear h ht HR h0 hn HD hws hsz hlb hBs HRR HH HB
  generalize YtchinflkjcebjabGreatDoor.bk (wAt ws 0) = x at *
  generalize cutQ (some ⟨g, p, none⟩) 1 cap = q1 at *
  generalize n - 1 = m at *
  generalize cap - 1 = cap1 at *
  generalize ws.drop 1 = r at *
  clear hg
  go_enter Tryz.func120, Tryz.ntmps120
  go_upto_region 6 with (first
    | (go_at_call 98; refine HRd.mono ?_; rintro e w1 ⟨n', rfl, hw1⟩)
    | go_in)
  go_wp2_with fail
  clear HRd
  refine wp_region_quiet_below (by kernel_rfl) (by kernel_rfl) ?_
  repeat (first | go_big_quiet_step (first | fail) | quiet_step (first | fail))
  refine wpQuiet_nil ?_
  intro _ hw'
  obtain ⟨⟨dq, osq⟩, hw''⟩ := hw'
  subst hw''
  have hY := below_regrown w1 dq osq
  change Exit.then _ _ Exit.normal _ (Sort.grow (redrawn w1 dq) osq)
  generalize Sort.grow (redrawn w1 dq) osq = Y at hY ⊢
  go_wp2
  refine bodyPost_ret (v := .tuple #[.int .i64 n', .slice q1 m cap1, .bool B]) (by simp [results, Tryz.results120, go_sem]) rfl ⟨n', q1, m, cap1, rfl, ⟨r, HDH.out, ?_⟩, below2 hw1.out.2 hY⟩
  intro a r0 e
  rw [HF.out] at e
  cases hR : RR with
  | none => rw [hR] at e; cases e
  | some v =>
    rw [hR] at e
    cases e
    exact ⟨hw1.out.1 _ hR, rfl⟩
end Go.Proofs.YtchinflkjcebjabGreatDoor
