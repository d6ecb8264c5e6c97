import Derived.Test.YtekgnogjfggnmaaDoorType
import Derived.Test.YtekgnogjfggnmaaDoorShape
namespace Go.Proofs.YtekgnogjfggnmaaDoor
open Go.RowKit

theorem empty_iff (t : ByteArray) : t.toList.isEmpty = decide (t.size = 0) := by
  rw [toL, Lib.size_eq]
  cases t.data.toList <;> simp

set_option maxHeartbeats 1000000 in
/-- A field: of a text that is filled 'good' answers. -/
theorem fits_any (k : Int) (t : ByteArray) (g : Nat) (good : ByteArray → Bool) (w : World) (hg : g = 69 ∨ g = 70)
    (hq : 0 < t.size → Hid (Calls Tryd.prog g #[.string t] w fun e w' => e = .returned (.bool (good t)) ∧ w = w')) :
    Calls Tryd.prog 68 #[.int .i64 k, .string t, .func (.func g) #[] #[]] w fun e w' => e = .returned (.bool (fitsS k t good)) ∧ w = w' := by
  obtain ⟨b, hb⟩ : ∃ b, fitsS k t good = b := ⟨_, rfl⟩
  have HB : Hid (fitsS k t good = b) := hb
  rw [hb]
  clear hb
  have he := empty_iff t
  by_cases hz : t.size = 0
  · have HB2 : Hid (b = (k != 2)) := by
      show _ = _
      rw [← HB.out]
      unfold fitsS
      rw [if_pos hz]
    rw [decide_eq_true hz] at he
    clear HB hq hz
    rcases hg with rfl | rfl
    all_goals
      go_enter Tryd.func68, Tryd.ntmps68
      go_wp2
      rw [HB2.out]
      go_ret
      exact ⟨rfl, rfl⟩
  · have HB2 : Hid (b = (k != 0 && good t)) := by
      show _ = _
      rw [← HB.out]
      unfold fitsS
      rw [if_neg hz]
    have HQ := hq (by omega)
    rw [decide_eq_false hz] at he
    clear HB hq hz
    generalize good t = z at *
    rcases hg with rfl | rfl
    · go_enter Tryd.func68, Tryd.ntmps68
      go_wp2_with (first
        | (go_at_call 69; refine HQ.out.mono ?_; rintro e w1 ⟨rfl, hw1⟩; subst hw1)
        | go_in)
      all_goals (rw [HB2.out]; go_ret; refine ⟨?_, rfl⟩; simp_all)
    · go_enter Tryd.func68, Tryd.ntmps68
      go_wp2_with (first
        | (go_at_call 70; refine HQ.out.mono ?_; rintro e w1 ⟨rfl, hw1⟩; subst hw1)
        | go_in)
      all_goals (rw [HB2.out]; go_ret; refine ⟨?_, rfl⟩; simp_all)


def ndV (x : Nd) : Array Value := #[.int .i64 x.kind, .int .i64 x.pos, .string x.name, .string x.label, .string x.typ, .int .i64 x.op, .int .i64 x.int, .string x.text, .int .i64 x.size]

/-- The cells of a block that was laid. -/
theorem cell_new (w : World) (cs : Array Value) (t : TypeId) (k : Nat) (v : Value) (hv : cs[k]? = some v) : (w.alloc (.cells cs t)).cell? ⟨w.heap.size, k, none⟩ = some v := by
  have h := heap_alloc_new w (.cells cs t)
  simp only [World.cell?, h]
  simpa using hv
theorem cell_old {w : World} {a : Addr} {v : Value} (o : Obj) (h : w.cell? a = some v) : (w.alloc o).cell? a = some v :=
  (((Below.refl w.heap.size w).alloc (Nat.le_refl _) o).cell (p := a) (World.block_lt_of_cell? w a h)).trans h

set_option maxRecDepth 100000 in
set_option maxHeartbeats 4000000 in
theorem fieldsFit_any (s : Shp) (x : Nd) (w : World) (hr : Hid (w.rangeAt 3 0 kwCells)) (hw : 4 ≤ w.heap.size) (hn : x.name.size ≤ 140737488355328) (hl : x.label.size ≤ 140737488355328) (ht : x.typ.size ≤ 140737488355328) (hx : x.text.size ≤ 140737488355328) :
    Calls Tryd.prog 50 #[.agg (shpV s), .agg (ndV x)] w fun e w' => e = .returned (.bool (fieldsS nameS typeS s x)) ∧ Below w.heap.size w w' := by
  obtain ⟨l1, n1, t1, li, mi, fo, lo, lg, fw, mo⟩ := s
  obtain ⟨kd, ps, nm, lb, ty, op, it, tx, sz⟩ := x
  obtain ⟨F, hF⟩ : ∃ F : Int → ByteArray → Nat → Bool, F = fun k t g => if g = 69 then fitsS k t nameS else fitsS k t typeS := ⟨_, rfl⟩
  obtain ⟨r, hrr⟩ : ∃ r, fieldsS nameS typeS ⟨l1, n1, t1, li, mi, fo, lo, lg, fw, mo⟩ ⟨kd, ps, nm, lb, ty, op, it, tx, sz⟩ = r := ⟨_, rfl⟩
  have HR : Hid (r = (decide (0 ≤ ps) && F l1 lb 69 && F n1 nm 69 && F t1 ty 70 && decide (li ≤ it) && decide (it ≤ mi) && decide (fo ≤ op) && decide (op ≤ lo) && decide ((tx.size : Int) ≤ lg))) := by
    rw [hF]
    exact hrr.symm
  rw [hrr]
  clear hrr
  obtain ⟨w1, hw1⟩ : ∃ w1, (w.alloc (.cells (shpV ⟨l1, n1, t1, li, mi, fo, lo, lg, fw, mo⟩) 72)).alloc (.cells (ndV ⟨kd, ps, nm, lb, ty, op, it, tx, sz⟩) 36) = w1 := ⟨_, rfl⟩
  have HB : Hid (Below w.heap.size w w1) := by
    rw [← hw1]
    exact (((Below.refl _ w).alloc (Nat.le_refl _) _).alloc (by simp) _)
  have HF : Hid (∀ (k : Int) (t : ByteArray) (g : Nat), t.size ≤ 140737488355328 → (g = 69 ∨ g = 70) → Calls Tryd.prog 68 #[.int .i64 k, .string t, .func (.func g) #[] #[]] w1 fun e w'' => e = .returned (.bool (F k t g)) ∧ w1 = w'') := fun k t g hs hg => by
    rcases hg with rfl | rfl
    · have := fits_any k t 69 nameS w1 (.inl rfl) fun h => (isName_any t w1 h (fun j v hv => (HB.out.cell (p := ⟨3, 0 + j, none⟩) (by show 3 < _; omega)).trans (hr.out j v hv)) hs).mono fun e w' h => ⟨h.1, h.2.symm⟩
      rw [hF]
      exact this
    · have := fits_any k t 70 typeS w1 (.inr rfl) fun _ => isType_any t w1 hs
      rw [hF]
      exact this
  clear hF
  have C : ∀ (k : Nat) (v : Value), (shpV ⟨l1, n1, t1, li, mi, fo, lo, lg, fw, mo⟩)[k]? = some v → w1.cell? ⟨w.heap.size, k, none⟩ = some v := fun k v hv => by
    rw [← hw1]
    exact cell_old _ (cell_new _ _ _ _ _ hv)
  have D : ∀ (k : Nat) (v : Value), (ndV ⟨kd, ps, nm, lb, ty, op, it, tx, sz⟩)[k]? = some v → w1.cell? ⟨w.heap.size + 1, k, none⟩ = some v := fun k v hv => by
    rw [← hw1]
    have := cell_new (w.alloc (.cells (shpV ⟨l1, n1, t1, li, mi, fo, lo, lg, fw, mo⟩) 72)) _ 36 k v hv
    rwa [World.size_alloc] at this
  have c0 : w1.cell? ⟨w.heap.size, 0, none⟩ = some (.int .i64 l1) := C 0 _ rfl
  have c1 : w1.cell? ⟨w.heap.size, 1, none⟩ = some (.int .i64 n1) := C 1 _ rfl
  have c2 : w1.cell? ⟨w.heap.size, 2, none⟩ = some (.int .i64 t1) := C 2 _ rfl
  have c3 : w1.cell? ⟨w.heap.size, 3, none⟩ = some (.int .i64 li) := C 3 _ rfl
  have c4 : w1.cell? ⟨w.heap.size, 4, none⟩ = some (.int .i64 mi) := C 4 _ rfl
  have c5 : w1.cell? ⟨w.heap.size, 5, none⟩ = some (.int .i64 fo) := C 5 _ rfl
  have c6 : w1.cell? ⟨w.heap.size, 6, none⟩ = some (.int .i64 lo) := C 6 _ rfl
  have c7 : w1.cell? ⟨w.heap.size, 7, none⟩ = some (.int .i64 lg) := C 7 _ rfl
  have d1 : w1.cell? ⟨w.heap.size + 1, 1, none⟩ = some (.int .i64 ps) := D 1 _ rfl
  have d2 : w1.cell? ⟨w.heap.size + 1, 2, none⟩ = some (.string nm) := D 2 _ rfl
  have d3 : w1.cell? ⟨w.heap.size + 1, 3, none⟩ = some (.string lb) := D 3 _ rfl
  have d4 : w1.cell? ⟨w.heap.size + 1, 4, none⟩ = some (.string ty) := D 4 _ rfl
  have d5 : w1.cell? ⟨w.heap.size + 1, 5, none⟩ = some (.int .i64 op) := D 5 _ rfl
  have d6 : w1.cell? ⟨w.heap.size + 1, 6, none⟩ = some (.int .i64 it) := D 6 _ rfl
  have d7 : w1.cell? ⟨w.heap.size + 1, 7, none⟩ = some (.string tx) := D 7 _ rfl
  clear C D
  simp only [shpV, ndV] at hw1 ⊢
  simp only at hn hl ht hx
  go_enter Tryd.func50, Tryd.ntmps50
  go_upto_region 1 with fail
  clear hw1
  have HB2 : Hid (Below w.heap.size w w1) := HB
  go_wp2_with (first
    | (go_at_call 68; refine (HF.out _ _ _ (by assumption) (by first | exact .inl rfl | exact .inr rfl)).mono ?_; rintro e w2 ⟨rfl, hw2⟩; subst hw2)
    | go_in)
  all_goals
    rw [HR.out]
    clear HR HF HB hr c0 c1 c2 c3 c4 c5 c6 c7 d1 d2 d3 d4 d5 d6 d7
    go_ret
    refine ⟨?_, HB2.out⟩
    first
      | (simp [*]; done)
      | (simp [*]; omega)
      | (simp_all; done)
      | (simp_all; omega)

end Go.Proofs.YtekgnogjfggnmaaDoor
