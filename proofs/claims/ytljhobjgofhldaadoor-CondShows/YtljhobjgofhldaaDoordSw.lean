import Derived.Test.YtljhobjgofhldaaDoordLs
namespace Go.Proofs.YtljhobjgofhldaaDoor
open Go.RowKit

/-- A variable with its value. -/
abbrev Sw := ByteArray × ByteArray × Int × Int × Int × Int × ByteArray
def sc (x : Sw) : List Value := [.string x.1, .string x.2.1, .int .i64 x.2.2.1, .int .i64 x.2.2.2.1, .int .i64 x.2.2.2.2.1, .int .i64 x.2.2.2.2.2.1, .string x.2.2.2.2.2.2]
def mkS : Sw := (⟨#[115, 112, 97, 114, 101]⟩, ⟨#[]⟩, 0, 0, 0, 0, ⟨#[]⟩)
theorem sc_len (l : List Sw) : (l.flatMap sc).length = l.length * 7 := flatL sc 7 (fun _ => rfl) l
/-- Seven cells in a row. -/
def Sev (w : World) (g o : Nat) (x : Sw) : Prop :=
  w.cell? ⟨g, o, none⟩ = some (.string x.1) ∧ w.cell? ⟨g, o + 1, none⟩ = some (.string x.2.1) ∧ w.cell? ⟨g, o + 2, none⟩ = some (.int .i64 x.2.2.1) ∧ w.cell? ⟨g, o + 3, none⟩ = some (.int .i64 x.2.2.2.1) ∧ w.cell? ⟨g, o + 4, none⟩ = some (.int .i64 x.2.2.2.2.1) ∧ w.cell? ⟨g, o + 5, none⟩ = some (.int .i64 x.2.2.2.2.2.1) ∧ w.cell? ⟨g, o + 6, none⟩ = some (.string x.2.2.2.2.2.2)
theorem Sev.same {w w' : World} {g o : Nat} {x : Sw} (h : Sev w g o x) (e : w'.heap[g]? = w.heap[g]?) : Sev w' g o x := by
  obtain ⟨h0, h1, h2, h3, h4, h5, h6⟩ := h
  have k := fun j => World.cell?_of_block (w := w) (w' := w') (a := ⟨g, j, none⟩) e
  exact ⟨(k _).trans h0, (k _).trans h1, (k _).trans h2, (k _).trans h3, (k _).trans h4, (k _).trans h5, (k _).trans h6⟩
def ShAt (w : World) (B : Nat) (q : Option Addr) (Vs : List Sw) : Prop := ∀ j (hj : j < Vs.length), ∃ g o, q = some ⟨g, o, none⟩ ∧ g < B ∧ Sev w g (o + j * 7) Vs[j]
theorem Full.sev {W : World} {g : Nat} {Vs : List Sw} {r : List Value} (h : Full W g 48 (Vs.flatMap sc ++ r)) (j : Nat) (hj : j < Vs.length) : Sev W g (j * 7) Vs[j] := by
  have k : ∀ t v, t < 7 → (sc Vs[j])[t]? = some v → W.cell? ⟨g, j * 7 + t, none⟩ = some v := fun t v ht hv => by
    refine (h.cell (j * 7 + t) v ?_).1
    rw [List.getElem?_append_left (by rw [sc_len]; omega), flat_at sc 7 (fun _ => rfl) Vs j t hj ht]
    exact hv
  exact ⟨k 0 _ (by omega) rfl, k 1 _ (by omega) rfl, k 2 _ (by omega) rfl, k 3 _ (by omega) rfl, k 4 _ (by omega) rfl, k 5 _ (by omega) rfl, k 6 _ (by omega) rfl⟩
theorem one_Sh (a b : ByteArray) (c d e f : Int) (s : ByteArray) : (#[.string a, .string b, .int .i64 c, .int .i64 d, .int .i64 e, .int .i64 f, .string s] : Array Value).all (·.oneCell') = true := by kernel_rfl
def ShI (w wr : World) (L : List Sw) (Z : Array Value) (j : Nat) : Prop := Full wr w.heap.size 48 ((L.take j).flatMap sc ++ Z.toList.drop (j * 7)) ∧ Below w.heap.size w wr
theorem ShI.step {wo wr : World} {L : List Sw} {Z : Array Value} {j : Nat} (h : ShI wo wr L Z j) (hj : j < L.length) (hZ : Z.size = (L.length + 1) * 7) : ShI wo (wr.setCells wo.heap.size (j * 7) (sc L[j])) L Z (j + 1) := by
  have hl : ((L.take j).flatMap sc).length = j * 7 := by rw [sc_len, List.length_take]; omega
  have hz : Z.toList.length = (L.length + 1) * 7 := by rw [Array.length_toList, hZ]
  refine ⟨?_, below_sets h.2 (Nat.le_refl _) _ _⟩
  have f := h.1
  rw [drop_parts Z.toList (j * 7) 7] at f
  have := f.put (sc L[j]) (by show 7 = _; rw [List.length_take, List.length_drop, hz]; omega)
  rw [hl] at this
  rw [flat_snoc sc hj, List.append_assoc, show (j + 1) * 7 = j * 7 + 7 by omega]
  exact this
theorem ShI.mark {wo wr : World} {L : List Sw} {Z : Array Value} (h : ShI wo wr L Z L.length) (hZ : Z.size = (L.length + 1) * 7) : Full (wr.setCells wo.heap.size (L.length * 7) (sc mkS)) wo.heap.size 48 (L.flatMap sc ++ sc mkS) ∧ Below wo.heap.size wo (wr.setCells wo.heap.size (L.length * 7) (sc mkS)) := by
  have hz : Z.toList.length = (L.length + 1) * 7 := by rw [Array.length_toList, hZ]
  refine ⟨?_, below_sets h.2 (Nat.le_refl _) _ _⟩
  have f := h.1
  rw [List.take_length, drop_parts Z.toList (L.length * 7) 7] at f
  have := f.put (sc mkS) (by show 7 = _; rw [List.length_take, List.length_drop, hz]; omega)
  rw [sc_len, List.drop_eq_nil_of_le (by omega), List.append_nil] at this
  exact this
theorem ShI.th {wo wr : World} {L : List Sw} {Z : Array Value} {j : Nat} (h : ShI wo wr L Z j) (hj : j ≤ L.length) (hZ : Z.size = (L.length + 1) * 7) : wr.there wo.heap.size (j * 7) 7 :=
  h.1.there _ _ (by have hz : Z.toList.length = (L.length + 1) * 7 := by rw [Array.length_toList, hZ]
                    rw [List.length_append, sc_len, List.length_take, List.length_drop, hz]; omega)
set_option maxRecDepth 100000 in
set_option maxHeartbeats 4000000 in
theorem shown_any {w : World} {q : Option Addr} (cap : Nat) {L : List Sw} (hr : ShAt w w.heap.size q L) (hL : L.length * 80 ≤ 140737488351232) :
    Calls Tryd.prog 8 #[.slice q L.length cap] w fun e w' => e = .returned (.slice (some ⟨w.heap.size, 0, none⟩) L.length (L.length + 1)) ∧ Hid (Full w' w.heap.size 48 (L.flatMap sc ++ sc mkS) ∧ Below w.heap.size w w') := by
  obtain ⟨Z, hZ, hmk⟩ := mk_of Tryd.underlying22 info_Sh L.length (by omega) (by omega)
  have hup := up_run Tryd.underlying22 sz_Sh ⟨w.heap.size, 0, none⟩ (L.length + 1) (L.length + 1) L.length (by omega)
  have hn : (L.length : Int) ≤ 17592186043904 := by omega
  have hn0 : (0 : Int) ≤ (L.length : Int) := by omega
  have hn1 : (L.length : Int) < (L.length : Int) + 1 := by omega
  obtain ⟨X, hX⟩ : ∃ X, w.alloc (.cells Z 48) = X := ⟨_, rfl⟩
  have H0 : Hid (ShI w X L Z 0) := by
    rw [← hX]
    refine ⟨?_, (Below.refl _ w).alloc (Nat.le_refl _) _⟩
    rw [Nat.zero_mul, List.drop_zero, List.take_zero]
    exact Full.new w Z _
  have HZ : Hid (Z.size = (L.length + 1) * 7) := hZ
  have HR : Hid (ShAt w w.heap.size q L) := hr
  clear hr hZ
  go_enter Tryd.func8, Tryd.ntmps8
  go_wp2_with fail
  go_loopw [4] (fun i wr => ∃ j : Nat, j ≤ L.length ∧ i = .int .i64 (j : Int) ∧ Hid (ShI w wr L Z j)) (fun i _ => L.length - (intOf i).toNat)
  case atStart => exact ⟨0, Nat.zero_le _, rfl, H0⟩
  case round =>
    obtain ⟨j, hj, rfl, hI⟩ := hrel
    clear H0 hX hmk
    have j0 : (0 : Int) ≤ (j : Int) := by omega
    by_cases hlt : j < L.length
    case neg =>
      obtain rfl : j = L.length := by omega
      have TH : Hid (wr.there w.heap.size (L.length * 7) 7) := hI.out.th hj HZ.out
      have HS := hI.out.mark HZ.out
      obtain ⟨W1, hW1⟩ : ∃ W1, Hid (wr.setCells w.heap.size (L.length * 7) (#[.string ⟨#[115, 112, 97, 114, 101]⟩, .string ⟨#[]⟩, .int .i64 0, .int .i64 0, .int .i64 0, .int .i64 0, .string ⟨#[]⟩] : Array Value).toList = W1) := hid_ex _
      have HS' : Hid (Full W1 w.heap.size 48 (L.flatMap sc ++ sc mkS) ∧ Below w.heap.size w W1) := by rw [← hW1.out]; exact HS
      have p1 : ¬ (L.length : Int) < (L.length : Int) := by omega
      clear hI HS
      go_wp2_with (first
        | (refine wpList_store_mid (by rfl) 48 (.tmp 27) (.tmp 26) (by rfl) w.heap.size (L.length * 7) #[.string ⟨#[115, 112, 97, 114, 101]⟩, .string ⟨#[]⟩, .int .i64 0, .int .i64 0, .int .i64 0, .int .i64 0, .string ⟨#[]⟩] (by rfl) (by rfl) TH.out size_Sh (one_Sh _ _ _ _ _ _ _) ?_; rw [hW1.out])
        | fail)
      first | (change bodyPost Tryd.prog Tryd.f8 _ Exit.ret _ _) | (simp only [Exit.noGoto])
      go_ret
      exact ⟨rfl, HS'⟩
    obtain ⟨g, o, rfl, hg, hc⟩ := HR.out j hlt
    obtain ⟨d0, d1, d2, d3, d4, d5, d6⟩ := hc.same (hI.out.2.block g hg)
    have TH : Hid (wr.there w.heap.size (j * 7) 7) := hI.out.th hj HZ.out
    have HS := hI.out.step hlt HZ.out
    obtain ⟨W1, hW1⟩ : ∃ W1, Hid (wr.setCells w.heap.size (j * 7) (sc L[j]) = W1) := hid_ex _
    rw [hW1.out] at HS
    have HS' : Hid (ShI w W1 L Z (j + 1)) := HS
    generalize L[j] = x at *
    obtain ⟨x0, x1, x2, x3, x4, x5, x6⟩ := x
    simp only at d0 d1 d2 d3 d4 d5 d6
    have HW : Hid (wr.setCells w.heap.size (j * 7) (#[.string x0, .string x1, .int .i64 x2, .int .i64 x3, .int .i64 x4, .int .i64 x5, .string x6] : Array Value).toList = W1) := hW1.out
    have j1 : (j : Int) < (L.length : Int) := by omega
    have j2 : (j : Int) < (L.length : Int) + 1 := by omega
    clear HS hW1 hI hc
    go_wp2_with (first
      | (refine wpList_store_mid (by rfl) 48 (.tmp 21) (.tmp 20) (by rfl) w.heap.size (j * 7) #[.string x0, .string x1, .int .i64 x2, .int .i64 x3, .int .i64 x4, .int .i64 x5, .string x6] (by rfl) (by rfl) TH.out size_Sh (one_Sh _ _ _ _ _ _ _) ?_; rw [HW.out])
      | fail)
    exact ⟨⟨j + 1, by omega, by go_num, HS'⟩, by simp [intOf]; omega⟩
end Go.Proofs.YtljhobjgofhldaaDoor
