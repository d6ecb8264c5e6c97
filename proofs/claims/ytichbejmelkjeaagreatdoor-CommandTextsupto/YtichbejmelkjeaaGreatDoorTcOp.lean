import Derived.Test.YtichbejmelkjeaaGreatDoorP27
import Derived.Carry
namespace Go.Proofs.YtichbejmelkjeaaGreatDoor
open Go.ChangeShapes Go.WideShapes Go.ChangeAt Go.RowKit

theorem bulk_pos {H : Type} (d : DataW H) : 1 ≤ Rows.uptoBulk d := by
  cases d with
  | lit l => cases l <;> simp [Rows.uptoBulk]
  | _ => simp [Rows.uptoBulk]
theorem list4 {α : Type} {xs : List α} (h : xs.length = 4) : ∃ c0 c1 c2 c3, xs = [c0, c1, c2, c3] := by
  match xs, h with
  | [c0, c1, c2, c3], _ => exact ⟨c0, c1, c2, c3, rfl⟩
theorem list5 {α : Type} {xs : List α} (h : xs.length = 5) : ∃ c0 c1 c2 c3 c4, xs = [c0, c1, c2, c3, c4] := by
  match xs, h with
  | [c0, c1, c2, c3, c4], _ => exact ⟨c0, c1, c2, c3, c4, rfl⟩
theorem wf_i64 {n : Int} (h : (Lit.int .i64 n).wf = true) : -9223372036854775808 ≤ n ∧ n ≤ 9223372036854775807 := by simpa [Lit.wf, IntKind.min, IntKind.max, IntKind.signed, IntKind.bits] using h
theorem cCmd : Tryz.prog.cellsOf 51 = 8 := by kernel_rfl
theorem cPoi : Tryz.prog.cellsOf 49 = 5 := by kernel_rfl
theorem cCk : Tryz.prog.cellsOf 46 = 1 := by kernel_rfl
theorem cPk : Tryz.prog.cellsOf 47 = 1 := by kernel_rfl
theorem cIn : Tryz.prog.cellsOf 3 = 1 := by kernel_rfl
theorem cBo : Tryz.prog.cellsOf 4 = 1 := by kernel_rfl
section
variable {H : Type} {enc : TypeId × Value → H} {W : World} {base : Nat} {spare : Nat → Bool} {held : Bool}
theorem op_strB (n : Nat) (c : Value) (y : DataW H × List MemPlace) (h : DataW.trod enc Tryz.prog W base spare held n 9 [c] = some y) : ∃ a : ByteArray, c = .string a ∧ a.size + 1 = Rows.uptoBulk y.1 := by
  obtain ⟨a, e, rfl, -⟩ := DataW.trod_string Tryz.underlying9 h
  simp at e
  exact ⟨a, e, by show a.size + 1 = a.data.toList.length + 1; rw [Lib.size_eq]⟩
theorem op_intB {t : TypeId} (ht : Tryz.prog.underlying t = some (.int .i64)) (n : Nat) (c : Value) (y : DataW H × List MemPlace) (h : DataW.trod enc Tryz.prog W base spare held n t [c] = some y) : ∃ a : Int, c = .int .i64 a ∧ -9223372036854775808 ≤ a ∧ a ≤ 9223372036854775807 := by
  obtain ⟨a, e, -, w⟩ := DataW.trod_int ht h
  simp at e
  exact ⟨a, e, wf_i64 w⟩
theorem op_point (n : Nat) (c0 c1 c2 c3 c4 : Value) (y : DataW H × List MemPlace) (h : DataW.trod enc Tryz.prog W base spare held n 49 [c0, c1, c2, c3, c4] = some y) (hb : Rows.uptoBulk y.1 ≤ 1048576) : ∃ (pk ln : Int) (nm cd : ByteArray) (off : Bool), c0 = .int .i64 pk ∧ c1 = .int .i64 ln ∧ c2 = .string nm ∧ c3 = .string cd ∧ c4 = .bool off ∧ (-9223372036854775808 ≤ ln ∧ ln ≤ 9223372036854775807) ∧ nm.size ≤ 1048576 ∧ cd.size ≤ 1048576 := by
  obtain ⟨zs, m, _, hy, _, hlen, hgs⟩ := DataW.trod_struct Tryz.underlying49 h
  obtain ⟨z0, z1, z2, z3, z4, rfl⟩ := list5 hlen
  have g0 : DataW.trod enc Tryz.prog W base spare held m 47 [c0] = some z0 := by have := hgs 0 _ rfl; simpa [cPk] using this
  have g1 : DataW.trod enc Tryz.prog W base spare held m 3 [c1] = some z1 := by have := hgs 1 _ rfl; simpa [cPk, cIn] using this
  have g2 : DataW.trod enc Tryz.prog W base spare held m 9 [c2] = some z2 := by have := hgs 2 _ rfl; simpa [cPk, cIn, cStr] using this
  have g3 : DataW.trod enc Tryz.prog W base spare held m 9 [c3] = some z3 := by have := hgs 3 _ rfl; simpa [cPk, cIn, cStr] using this
  have g4 : DataW.trod enc Tryz.prog W base spare held m 4 [c4] = some z4 := by have := hgs 4 _ rfl; simpa [cPk, cIn, cStr, cBo] using this
  obtain ⟨pk, rfl, -⟩ := op_intB Tryz.underlying47 m c0 z0 g0
  obtain ⟨ln, rfl, hl⟩ := op_intB Tryz.underlying3 m c1 z1 g1
  obtain ⟨nm, rfl, h2⟩ := op_strB m c2 z2 g2
  obtain ⟨cd, rfl, h3⟩ := op_strB m c3 z3 g3
  obtain ⟨off, e4, -⟩ := DataW.trod_bool Tryz.underlying4 g4
  simp at e4
  subst hy
  simp only [List.map_cons, List.map_nil, Rows.uptoBulk, Rows.uptoBulkAll] at hb
  exact ⟨pk, ln, nm, cd, off, rfl, rfl, rfl, rfl, e4, hl, by omega, by omega⟩
set_option maxRecDepth 100000 in
theorem open_cmd {b0 : Nat} {r : Reach} {v : Value} {d : DataW H} {p : List MemPlace} (hv : Value.okWide Tryz.prog W r b0 51 v) (h : DataW.Trod enc Tryz.prog W base spare held 51 v d p) (hb : Rows.uptoBulk d ≤ 1048576) :
    ∃ (kd pk ln nn : Int) (nm cd tx : ByteArray) (off : Bool), v = .agg #[.int .i64 kd, .int .i64 pk, .int .i64 ln, .string nm, .string cd, .bool off, .int .i64 nn, .string tx] ∧ (-9223372036854775808 ≤ ln ∧ ln ≤ 9223372036854775807) ∧ (-9223372036854775808 ≤ nn ∧ nn ≤ 9223372036854775807) ∧ nm.size ≤ 1048576 ∧ cd.size ≤ 1048576 ∧ tx.size ≤ 1048576 := by
  obtain ⟨cs, rfl, hsz⟩ := okWide_struct Tryz.underlying51 hv
  obtain ⟨c0, c1, c2, c3, c4, c5, c6, c7, rfl⟩ : ∃ c0 c1 c2 c3 c4 c5 c6 c7, cs = #[c0, c1, c2, c3, c4, c5, c6, c7] := by
    have h1 : cs.size = 8 := hsz.trans cCmd
    obtain ⟨l⟩ := cs
    match l, h1 with
    | [c0, c1, c2, c3, c4, c5, c6, c7], _ => exact ⟨c0, c1, c2, c3, c4, c5, c6, c7, rfl⟩
  obtain ⟨fuel, hf⟩ := h
  obtain ⟨xs, m, _, hx, _, hlen, hfs⟩ := DataW.trod_struct Tryz.underlying51 hf
  obtain ⟨z0, z1, z2, z3, rfl⟩ := list4 hlen
  have g0 : DataW.trod enc Tryz.prog W base spare held m 46 [c0] = some z0 := by have := hfs 0 _ rfl; simpa [Value.cells, cCk] using this
  have g1 : DataW.trod enc Tryz.prog W base spare held m 49 [c1, c2, c3, c4, c5] = some z1 := by have := hfs 1 _ rfl; simpa [Value.cells, cCk, cPoi] using this
  have g2 : DataW.trod enc Tryz.prog W base spare held m 3 [c6] = some z2 := by have := hfs 2 _ rfl; simpa [Value.cells, cCk, cPoi, cIn] using this
  have g3 : DataW.trod enc Tryz.prog W base spare held m 9 [c7] = some z3 := by have := hfs 3 _ rfl; simpa [Value.cells, cCk, cPoi, cIn, cStr] using this
  simp only [Prod.mk.injEq] at hx
  have hd0 := hx.1
  subst hd0
  simp only [List.map_cons, List.map_nil, Rows.uptoBulk, Rows.uptoBulkAll] at hb
  obtain ⟨kd, rfl, -⟩ := op_intB Tryz.underlying46 m c0 z0 g0
  obtain ⟨pk, ln, nm, cd, off, rfl, rfl, rfl, rfl, rfl, hl, h3, h4⟩ := op_point m c1 c2 c3 c4 c5 z1 g1 (by omega)
  obtain ⟨nn, rfl, hn⟩ := op_intB Tryz.underlying3 m c6 z2 g2
  obtain ⟨tx, rfl, h7⟩ := op_strB m c7 z3 g3
  exact ⟨kd, pk, ln, nn, nm, cd, tx, off, rfl, hl, hn, h3, h4, by omega⟩
end
end Go.Proofs.YtichbejmelkjeaaGreatDoor
