import Derived.Test.YtdcioemjmmhbhaaDoorSeatA
import Derived.Test.YtdcioemjmmhbhaaDoorScript
namespace Go.Proofs.YtdcioemjmmhbhaaDoor
open Go.RowKit

/-- What a seat new in the table has: the table's cell, and the heap of the program in it. -/
def Sat (W : World) (tb j sp : Nat) : Prop := W.cell? ⟨tb, j, none⟩ = some (.pointer (some ⟨sp, 0, none⟩)) ∧ ∃ hp : Nat, W.cell? ⟨sp, 1, none⟩ = some (.pointer (some ⟨hp, 0, none⟩))
theorem sit1 {w : World} {B tb : Nat} (n : Int) (hb : Blk w tb 71 2) (c0 : w.cell? ⟨tb, 0, none⟩ = some (.pointer none)) (c1 : w.cell? ⟨tb, 1, none⟩ = some (.pointer none)) (hB : B ≤ w.heap.size) (hBt : B ≤ tb) :
    Calls Tryd.prog 27 #[.int .i64 n] w fun e w1 => ∃ sp, e = .returned (.pointer (some ⟨sp, 0, none⟩)) ∧ w1.cell? ⟨tb, 0, none⟩ = some (.pointer none) ∧ w1.frozen? ⟨tb, 0, none⟩ = false ∧ Hid ((Solo (w1.setCell ⟨tb, 0, none⟩ (.pointer (some ⟨sp, 0, none⟩))) B tb ∧ Below B w (w1.setCell ⟨tb, 0, none⟩ (.pointer (some ⟨sp, 0, none⟩)))) ∧ Sat (w1.setCell ⟨tb, 0, none⟩ (.pointer (some ⟨sp, 0, none⟩))) tb 0 sp) := by
  refine (sit_any n w).mono fun e w1 ⟨sp, e1, e2, b1⟩ => ?_
  obtain ⟨F, q1, q2⟩ := e2.out
  have e := b1.block tb hb.lt
  have ne : ∀ b, F b → b ≠ tb := fun b q e => by have := q2 b q; have := hb.lt; omega
  have d0 := (World.cell?_of_block (a := ⟨tb, 0, none⟩) e).trans c0
  obtain ⟨hp, mp, -, k1, -⟩ := (q1.tbl ne 0 (.pointer (some ⟨sp, 0, none⟩))).ptr
  exact ⟨sp, e1, d0, (hb.next b1).unfrozen 0, ⟨solo_of hb c0 c1 hB b1 q1 q2, ((Kp.of (F := fun b => b = tb) b1).setCell (p := ⟨tb, 0, none⟩) (.inl rfl) _).below (fun b hb => by omega) hB⟩, World.cell?_setCell_same _ _ _ d0, hp, k1⟩
theorem sit2 {w : World} {B tb : Nat} (n : Int) (hs : Solo w B tb) (hB : B ≤ w.heap.size) (hBt : B ≤ tb) :
    Calls Tryd.prog 27 #[.int .i64 n] w fun e w1 => ∃ sp, e = .returned (.pointer (some ⟨sp, 0, none⟩)) ∧ (∃ u, w1.cell? ⟨tb, 1, none⟩ = some u) ∧ w1.frozen? ⟨tb, 1, none⟩ = false ∧ Hid ((Duo (w1.setCell ⟨tb, 1, none⟩ (.pointer (some ⟨sp, 0, none⟩))) B tb 0 0 ∧ Below B w (w1.setCell ⟨tb, 1, none⟩ (.pointer (some ⟨sp, 0, none⟩)))) ∧ Sat (w1.setCell ⟨tb, 1, none⟩ (.pointer (some ⟨sp, 0, none⟩))) tb 1 sp) := by
  refine (sit_any n w).mono fun e w1 ⟨sp, e1, e2, b1⟩ => ?_
  obtain ⟨F, q1, q2⟩ := e2.out
  have hs' := hs
  obtain ⟨s0, l, m, A, F0, ⟨hb, c0, u, c1⟩, h0, f0⟩ := hs'
  have e := b1.block tb hb.lt
  have ne : ∀ b, F b → b ≠ tb := fun b q e => by have := q2 b q; have := hb.lt; omega
  have d0 := (World.cell?_of_block (a := ⟨tb, 1, none⟩) e).trans c1
  obtain ⟨hp, mp, -, k1, -⟩ := (q1.tbl ne 1 (.pointer (some ⟨sp, 0, none⟩))).ptr
  exact ⟨sp, e1, ⟨u, d0⟩, (hb.next b1).unfrozen 1, ⟨duo_of hs hB b1 q1 q2, ((Kp.of (F := fun b => b = tb) b1).setCell (p := ⟨tb, 1, none⟩) (.inl rfl) _).below (fun b hb => by omega) hB⟩, World.cell?_setCell_same _ _ _ d0, hp, k1⟩

theorem Duo.does2 {w0 : World} {B tb N k : Nat} (h : Duo w0 B tb N k) (hB : 0 < B) (hBw : B ≤ w0.heap.size) (hNb : N ≤ 2000000000000) :
    ∃ sp, w0.cell? ⟨tb, k, none⟩ = some (.pointer (some ⟨sp, 0, none⟩)) ∧ tb < w0.heap.size ∧ ∀ w, Below w0.heap.size w0 w → Zt w → ∀ (dop on kd n rk rn : Int) (rs : ByteArray) (xk xn : Int) (xs : ByteArray), rs.size ≤ 9223372036854775807 → xs.size ≤ 9223372036854775807 → inR xn → Calls Tryd.prog 29 #[.pointer (some ⟨sp, 0, none⟩), .agg #[.int .i64 dop, .int .i64 on, .int .i64 kd, .int .i64 n, .int .i64 rk, .int .i64 rn, .string rs, .int .i64 xk, .int .i64 xn, .string xs]] w fun e w' => e = .returned (.bool true) ∧ Hid (Duo w' B tb (N + 1) k) ∧ Below B w w' ∧ Hid (∀ b, w0.heap.size ≤ b ∨ b = tb → b < w.heap.size → w'.heap[b]? = w.heap[b]?) := by
  obtain ⟨sp, so, l, l', m, m', A, A', F, F', ⟨g1, g2, g3⟩, ⟨g4, g5⟩, h6, h7, h8⟩ := h
  refine ⟨sp, g2, g1.lt, fun w hw hz dop on kd n rk rn rs xk xn xs hrs hxs hxr => ?_⟩
  have zw := hw.size
  have e0 := hw.block tb g1.lt
  have h1 := g1.next hw
  have h2 := (World.cell?_of_block (a := ⟨tb, k, none⟩) e0).trans g2
  have h3 := (World.cell?_of_block (a := ⟨tb, 1 - k, none⟩) e0).trans g3
  have h4 := g4.next hw
  have h5 := g5.next hw
  refine (does_any h4 hz (fun q => by have := (h7 0 q).1; omega) dop on kd n rk rn rs xk xn xs hrs hxs hxr hNb).mono fun e w' ⟨e1, e2⟩ => ⟨e1, ?_, ?_, ?_⟩
  · obtain ⟨A2, F2, q1, q2, q3⟩ := e2.out
    have et := q2.block tb h1.lt (fun q => (h7 tb q).2 rfl)
    refine ⟨sp, so, l, l', m, m', A2, A', F2, F', ⟨h1.same et, (World.cell?_of_block (a := ⟨tb, k, none⟩) et).trans h2, (World.cell?_of_block (a := ⟨tb, 1 - k, none⟩) et).trans h3⟩, ⟨q1, (h5.more (by omega)).same (fun b hb => q2.block b (h5.flt b hb) (fun q => h6 b q hb)) q2.size⟩, fun b hb q => ?_, fun b hb => ?_, h8⟩
    · rcases q3 b hb with r | r
      · exact h6 b r q
      · have := h5.flt b q; omega
    · rcases q3 b hb with r | r
      · exact h7 b r
      · have := h1.lt
        exact ⟨by omega, by omega⟩
  · obtain ⟨A2, F2, q1, q2, q3⟩ := e2.out
    exact q2.below (fun b hb => (h7 b hb).1) (by omega)
  · obtain ⟨A2, F2, q1, q2, q3⟩ := e2.out
    intro b hb hl
    refine q2.block b hl (fun q => ?_)
    rcases hb with r | r
    · have := g4.flt b q; omega
    · exact (h7 b q).2 r
theorem Duo.tab {w : World} {B tb N k : Nat} (h : Duo w B tb N k) : Blk w tb 71 2 ∧ ∃ so : Nat, w.cell? ⟨tb, 1 - k, none⟩ = some (.pointer (some ⟨so, 0, none⟩)) := by
  obtain ⟨sp, so, l, l', m, m', A, A', F, F', ⟨h1, h2, h3⟩, ⟨h4, h5⟩, h6, h7, h8⟩ := h
  exact ⟨h1, so, h3⟩

set_option maxRecDepth 100000 in
set_option maxHeartbeats 8000000 in
theorem cellsPlays_any (w : World) (l0 l1 : Int) (q : Option Addr) (cap : Nat) (S : List Sp) (hS : StepsAt w q S) (hz : Zt w) (hSl : S.length + 10 ≤ 2000000000000) :
    Calls Tryd.prog 7 #[.agg #[.int .i64 l0, .int .i64 l1, .slice q S.length cap]] w fun e w' => e = .returned (.bool true) ∧ Below w.heap.size w w' := by
  have B0 : Below w.heap.size w (w.alloc (.cells #[.int .i64 l0, .int .i64 l1, .slice q S.length cap] 25)) := (Below.refl _ w).alloc (Nat.le_refl _) _
  have hn := World.alloc_heap_new w (.cells #[.int .i64 l0, .int .i64 l1, .slice q S.length cap] 25)
  have z0 : (w.alloc (.cells #[.int .i64 l0, .int .i64 l1, .slice q S.length cap] 25)).heap.size = w.heap.size + 1 := by simp
  have hzp := hz.pos
  go_enter Tryd.func7, Tryd.ntmps7
  go_upto_region 1 with fail
  generalize w.alloc (.cells #[.int .i64 l0, .int .i64 l1, .slice q S.length cap] 25) = X at B0 hn z0 ⊢
  have z1 : w.heap.size < X.heap.size := by omega
  clear z0
  have x0 : X.cell? ⟨w.heap.size, 0, none⟩ = some (.int .i64 l0) := by simp only [World.cell?, hn]; rfl
  have x1 : X.cell? ⟨w.heap.size, 1, none⟩ = some (.int .i64 l1) := by simp only [World.cell?, hn]; rfl
  have x2 : X.cell? ⟨w.heap.size, 2, none⟩ = some (.slice q S.length cap) := by simp only [World.cell?, hn]; rfl
  have HX : Hid (∀ W, Below X.heap.size X W → (W.cell? ⟨w.heap.size, 0, none⟩ = some (.int .i64 l0) ∧ W.cell? ⟨w.heap.size, 1, none⟩ = some (.int .i64 l1) ∧ W.cell? ⟨w.heap.size, 2, none⟩ = some (.slice q S.length cap)) ∧ StepsAt W q S ∧ Zt W) := fun W hW => by
    have hb := below2 B0 hW
    exact ⟨⟨(hW.cell (p := ⟨w.heap.size, 0, none⟩) z1).trans x0, (hW.cell (p := ⟨w.heap.size, 1, none⟩) z1).trans x1, (hW.cell (p := ⟨w.heap.size, 2, none⟩) z1).trans x2⟩, hS.next hb, hz.same (hb.block 0 hzp)⟩
  have hlen := hS.len
  have HX0 : 0 < X.heap.size := by omega
  have HI0 : Hid (Blk (X.alloc (.cells #[.pointer none, .pointer none] 71)) X.heap.size 71 2 ∧ (X.alloc (.cells #[.pointer none, .pointer none] 71)).cell? ⟨X.heap.size, 0, none⟩ = some (.pointer none) ∧ (X.alloc (.cells #[.pointer none, .pointer none] 71)).cell? ⟨X.heap.size, 1, none⟩ = some (.pointer none) ∧ Below X.heap.size X (X.alloc (.cells #[.pointer none, .pointer none] 71))) := by
    have hn := World.alloc_heap_new X (.cells #[.pointer none, .pointer none] 71)
    exact ⟨Blk.new X _ _ (by simp), by simp only [World.cell?, hn]; rfl, by simp only [World.cell?, hn]; rfl, (Below.refl _ X).alloc (Nat.le_refl _) _⟩
  clear hS hz hn x0 x1 x2
  go_wp2_with fail
  generalize X.alloc (.cells #[.pointer none, .pointer none] 71) = Y at HI0 ⊢
  go_loopw [4] (fun v wr => (v = .int .i64 0 ∧ Hid (Blk wr X.heap.size 71 2 ∧ wr.cell? ⟨X.heap.size, 0, none⟩ = some (.pointer none) ∧ wr.cell? ⟨X.heap.size, 1, none⟩ = some (.pointer none) ∧ Below X.heap.size X wr)) ∨ (v = .int .i64 1 ∧ Hid (Solo wr X.heap.size X.heap.size ∧ Below X.heap.size X wr)) ∨ (v = .int .i64 2 ∧ Hid (Duo wr X.heap.size X.heap.size 0 0 ∧ Below X.heap.size X wr))) (fun v _ => 2 - (intOf v).toNat)
  case atStart => exact .inl ⟨rfl, HI0⟩
  case round =>
    clear HI0
    rcases hrel with ⟨rfl, hq⟩ | ⟨rfl, hq⟩ | ⟨rfl, hq⟩
    · obtain ⟨r1, r2, r3, hB⟩ := hq.out
      have x := (HX.out _ hB).1.1
      have HB : Hid (Below X.heap.size X wr) := hB
      have hs := sit1 (B := X.heap.size) l0 r1 r2 r3 hB.size (Nat.le_refl _)
      clear r1 r2 r3 hB
      go_wp2_with fail
      refine hs.mono ?_
      rintro e w1 ⟨sp, rfl, y0, y1, hN⟩
      clear x hs
      go_upto_region 6 with fail
      generalize w1.setCell ⟨X.heap.size, 0, none⟩ (.pointer (some ⟨sp, 0, none⟩)) = Z at hN ⊢
      obtain ⟨⟨-, -⟩, k1, hp, k2⟩ := hN.out
      clear y0 y1
      go_wp2_with fail
      exact ⟨.inr (.inl ⟨rfl, hN.out.1.1, HB.out.trans hN.out.1.2⟩), by simp [intOf]⟩
    · obtain ⟨r1, hB⟩ := hq.out
      have x := (HX.out _ hB).1.2.1
      have HB : Hid (Below X.heap.size X wr) := hB
      have hs := sit2 l1 r1 hB.size (Nat.le_refl _)
      clear r1 hB
      go_wp2_with fail
      refine hs.mono ?_
      rintro e w1 ⟨sp, rfl, ⟨u, y0⟩, y1, hN⟩
      clear x hs
      go_upto_region 6 with fail
      generalize w1.setCell ⟨X.heap.size, 1, none⟩ (.pointer (some ⟨sp, 0, none⟩)) = Z at hN ⊢
      obtain ⟨⟨-, -⟩, k1, hp, k2⟩ := hN.out
      clear y0 y1
      go_wp2_with fail
      exact ⟨.inr (.inr ⟨rfl, hN.out.1.1, HB.out.trans hN.out.1.2⟩), by simp [intOf]⟩
    obtain ⟨hD, hB⟩ := hq.out
    have HI1 : Hid (Duo wr X.heap.size X.heap.size 0 0 ∧ Below X.heap.size X wr) := ⟨hD, hB⟩
    clear hq hD hB
    go_wp2_with fail
    go_loopw [5] (fun v wr => ∃ i : Nat, i ≤ S.length ∧ v = .int .i64 (i : Int) ∧ Hid (Duo wr X.heap.size X.heap.size i 0 ∧ Below X.heap.size X wr)) (fun v _ => S.length - (intOf v).toNat)
    case atStart => exact ⟨0, Nat.zero_le _, rfl, HI1⟩
    case round =>
      obtain ⟨i, hi, rfl, hq⟩ := hrel
      clear HI1
      by_cases hlt : i < S.length
      case neg =>
        obtain rfl : i = S.length := by omega
        have hji : ¬ ((S.length : Int) < (S.length : Int)) := by omega
        have x2 := (HX.out _ hq.out.2).1.2.2
        go_wp2_with fail
        clear x2
        have HI2 : Hid (Duo wr X.heap.size X.heap.size S.length 0 ∧ Below X.heap.size X wr) := hq
        clear hq hji
        go_loopw [10] (fun v wr => (v = .int .i64 0 ∧ Hid (Duo wr X.heap.size X.heap.size S.length 0 ∧ Below X.heap.size X wr)) ∨ (v = .int .i64 1 ∧ Hid (Duo wr X.heap.size X.heap.size (S.length + 1 + 1 + 1) 0 ∧ Below X.heap.size X wr)) ∨ (v = .int .i64 2 ∧ Hid (Below X.heap.size X wr))) (fun v _ => 2 - (intOf v).toNat)
        case atStart => exact .inl ⟨rfl, HI2⟩
        case round =>
          clear HI2
          rcases hrel with ⟨rfl, hq⟩ | ⟨rfl, hq⟩ | ⟨rfl, hq⟩
          · have HB : Hid (Below X.heap.size X wr) := hq.out.2
            have hD : Hid (Duo wr X.heap.size X.heap.size (S.length) 0) := hq.out.1
            clear hq
            obtain ⟨sp, y0, -, hdo⟩ := hD.out.does2 HX0 HB.out.size (by omega)
            have hc := hdo wr (Below.refl _ _) (HX.out _ HB.out).2.2 6 0 0 0 0 0 ⟨#[]⟩ 0 0 ⟨#[]⟩ (by decide) (by decide) (by first | decide | (unfold inR; omega))
            clear hdo
            go_wp2_with fail
            refine hc.mono ?_
            rintro e c1 ⟨rfl, hD', hb', -⟩
            clear y0 hc
            replace HB : Hid (Below X.heap.size X c1) := HB.out.trans hb'
            clear hD hb'
            have hD := hD'
            clear hD'
            obtain ⟨sp, y0, -, hdo⟩ := hD.out.does2 HX0 HB.out.size (by omega)
            have hc := hdo c1 (Below.refl _ _) (HX.out _ HB.out).2.2 7 0 0 0 0 0 ⟨#[]⟩ 0 0 ⟨#[]⟩ (by decide) (by decide) (by first | decide | (unfold inR; omega))
            clear hdo
            go_wp2_with fail
            refine hc.mono ?_
            rintro e c2 ⟨rfl, hD', hb', -⟩
            clear y0 hc
            replace HB : Hid (Below X.heap.size X c2) := HB.out.trans hb'
            clear hD hb'
            have hD := hD'
            clear hD'
            obtain ⟨sp, y0, -, hdo⟩ := hD.out.does2 HX0 HB.out.size (by omega)
            have hc := hdo c2 (Below.refl _ _) (HX.out _ HB.out).2.2 5 0 0 0 0 0 ⟨#[]⟩ 0 0 ⟨#[]⟩ (by decide) (by decide) (by first | decide | (unfold inR; omega))
            clear hdo
            go_wp2_with fail
            refine hc.mono ?_
            rintro e c3 ⟨rfl, hD', hb', -⟩
            clear y0 hc
            replace HB : Hid (Below X.heap.size X c3) := HB.out.trans hb'
            clear hD hb'
            have hD := hD'
            clear hD'
            go_wp2_with fail
            exact ⟨.inr (.inl ⟨rfl, hD.out, HB.out⟩), by simp [intOf]⟩
          · have HB : Hid (Below X.heap.size X wr) := hq.out.2
            have hD : Hid (Duo wr X.heap.size X.heap.size (S.length + 1 + 1 + 1) 1) := hq.out.1.turn (by omega)
            clear hq
            obtain ⟨sp, y0, -, hdo⟩ := hD.out.does2 HX0 HB.out.size (by omega)
            have hc := hdo wr (Below.refl _ _) (HX.out _ HB.out).2.2 6 0 0 0 0 0 ⟨#[]⟩ 0 0 ⟨#[]⟩ (by decide) (by decide) (by first | decide | (unfold inR; omega))
            clear hdo
            go_wp2_with fail
            refine hc.mono ?_
            rintro e c1 ⟨rfl, hD', hb', -⟩
            clear y0 hc
            replace HB : Hid (Below X.heap.size X c1) := HB.out.trans hb'
            clear hD hb'
            have hD := hD'
            clear hD'
            obtain ⟨sp, y0, -, hdo⟩ := hD.out.does2 HX0 HB.out.size (by omega)
            have hc := hdo c1 (Below.refl _ _) (HX.out _ HB.out).2.2 7 0 0 0 0 0 ⟨#[]⟩ 0 0 ⟨#[]⟩ (by decide) (by decide) (by first | decide | (unfold inR; omega))
            clear hdo
            go_wp2_with fail
            refine hc.mono ?_
            rintro e c2 ⟨rfl, hD', hb', -⟩
            clear y0 hc
            replace HB : Hid (Below X.heap.size X c2) := HB.out.trans hb'
            clear hD hb'
            have hD := hD'
            clear hD'
            obtain ⟨sp, y0, -, hdo⟩ := hD.out.does2 HX0 HB.out.size (by omega)
            have hc := hdo c2 (Below.refl _ _) (HX.out _ HB.out).2.2 5 0 0 0 0 0 ⟨#[]⟩ 0 0 ⟨#[]⟩ (by decide) (by decide) (by first | decide | (unfold inR; omega))
            clear hdo
            go_wp2_with fail
            refine hc.mono ?_
            rintro e c3 ⟨rfl, hD', hb', -⟩
            clear y0 hc
            replace HB : Hid (Below X.heap.size X c3) := HB.out.trans hb'
            clear hD hb'
            have hD := hD'
            clear hD'
            go_wp2_with fail
            exact ⟨.inr (.inr ⟨rfl, HB⟩), by simp [intOf]⟩
          go_wp2_with fail
          first | (change bodyPost Tryd.prog Tryd.f7 _ Exit.ret _ _) | (simp only [Exit.noGoto])
          go_ret
          exact ⟨rfl, below2 B0 hq.out⟩
      obtain ⟨hD, hB⟩ := hq.out
      obtain ⟨⟨-, -, x2⟩, hS, hz⟩ := HX.out _ hB
      have t123 := hS.txt S[i] (List.getElem_mem hlt)
      obtain ⟨t1, t2, t3⟩ := t123
      obtain ⟨g, o, hqe, hr⟩ := hS.get i hlt
      subst hqe
      obtain ⟨⟨dop, on, kd, n, ⟨rk, rn, rs⟩, xk, xn, xs⟩, hsp⟩ : ∃ sp, S[i] = sp := ⟨_, rfl⟩
      rw [hsp] at t1 t2 t3 hr
      simp only at t1 t2 t3
      have s0 : wr.cell? ⟨g, o + i * 10, none⟩ = some (.int .i64 dop) := hr 0 _ rfl
      have s1 : wr.cell? ⟨g, o + i * 10 + 1, none⟩ = some (.int .i64 on) := hr 1 _ rfl
      have s2 : wr.cell? ⟨g, o + i * 10 + 2, none⟩ = some (.int .i64 kd) := hr 2 _ rfl
      have s3 : wr.cell? ⟨g, o + i * 10 + 3, none⟩ = some (.int .i64 n) := hr 3 _ rfl
      have s4 : wr.cell? ⟨g, o + i * 10 + 4, none⟩ = some (.int .i64 rk) := hr 4 _ rfl
      have s5 : wr.cell? ⟨g, o + i * 10 + 5, none⟩ = some (.int .i64 rn) := hr 5 _ rfl
      have s6 : wr.cell? ⟨g, o + i * 10 + 6, none⟩ = some (.string rs) := hr 6 _ rfl
      have s7 : wr.cell? ⟨g, o + i * 10 + 7, none⟩ = some (.int .i64 xk) := hr 7 _ rfl
      have s8 : wr.cell? ⟨g, o + i * 10 + 8, none⟩ = some (.int .i64 xn) := hr 8 _ rfl
      have s9 : wr.cell? ⟨g, o + i * 10 + 9, none⟩ = some (.string xs) := hr 9 _ rfl
      have j0 : (0 : Int) ≤ (i : Int) := Int.natCast_nonneg _
      have j1 : (i : Int) < (S.length : Int) := Int.ofNat_lt.2 hlt
      have HQ : Hid (Duo wr X.heap.size X.heap.size i 0 ∧ Below X.heap.size X wr) := hq
      have HZ : Hid (Zt wr) := hz
      clear hr hS hz hD hB hq hsp
      have sn := sc_new wr ⟨dop, on, kd, n, (rk, rn, rs), (xk, xn, xs)⟩ 39
      unfold sc at sn
      simp only at sn
      have nb : Below wr.heap.size wr (wr.alloc (.cells #[.int .i64 dop, .int .i64 on, .int .i64 kd, .int .i64 n, .int .i64 rk, .int .i64 rn, .string rs, .int .i64 xk, .int .i64 xn, .string xs] 39)) := (Below.refl _ wr).alloc (Nat.le_refl _) _
      have zV : wr.heap.size < (wr.alloc (.cells #[.int .i64 dop, .int .i64 on, .int .i64 kd, .int .i64 n, .int .i64 rk, .int .i64 rn, .string rs, .int .i64 xk, .int .i64 xn, .string xs] 39)).heap.size := by simp
      have B6 : Below X.heap.size X (wr.alloc (.cells #[.int .i64 dop, .int .i64 on, .int .i64 kd, .int .i64 n, .int .i64 rk, .int .i64 rn, .string rs, .int .i64 xk, .int .i64 xn, .string xs] 39)) := HQ.out.2.trans (nb.mono HQ.out.2.size)
      go_upto_region 12 with fail
      generalize wr.alloc (.cells #[.int .i64 dop, .int .i64 on, .int .i64 kd, .int .i64 n, .int .i64 rk, .int .i64 rn, .string rs, .int .i64 xk, .int .i64 xn, .string xs] 39) = V at sn nb B6 zV ⊢
      have v0 : V.cell? ⟨wr.heap.size, 0, none⟩ = some (.int .i64 dop) := sn 0 _ rfl
      have v1 : V.cell? ⟨wr.heap.size, 1, none⟩ = some (.int .i64 on) := sn 1 _ rfl
      have v2 : V.cell? ⟨wr.heap.size, 2, none⟩ = some (.int .i64 kd) := sn 2 _ rfl
      have v3 : V.cell? ⟨wr.heap.size, 3, none⟩ = some (.int .i64 n) := sn 3 _ rfl
      have v4 : V.cell? ⟨wr.heap.size, 4, none⟩ = some (.int .i64 rk) := sn 4 _ rfl
      have v5 : V.cell? ⟨wr.heap.size, 5, none⟩ = some (.int .i64 rn) := sn 5 _ rfl
      have v6 : V.cell? ⟨wr.heap.size, 6, none⟩ = some (.string rs) := sn 6 _ rfl
      have v7 : V.cell? ⟨wr.heap.size, 7, none⟩ = some (.int .i64 xk) := sn 7 _ rfl
      have v8 : V.cell? ⟨wr.heap.size, 8, none⟩ = some (.int .i64 xn) := sn 8 _ rfl
      have v9 : V.cell? ⟨wr.heap.size, 9, none⟩ = some (.string xs) := sn 9 _ rfl
      clear sn s0 s1 s2 s3 s4 s5 s6 s7 s8 s9 x2
      by_cases hon : on = 1
      · subst hon
        have HD : Hid (Duo wr X.heap.size X.heap.size i 1) := HQ.out.1.turn (by omega)
        have HDV : Hid (Duo V X.heap.size X.heap.size i 1) := HD.out.next nb
        by_cases d9 : dop = 9
        · subst d9
          obtain ⟨sp, hp, mp, l, ⟨y0, y1, y2, y3, hs1, hs2⟩, hcl⟩ := HDV.out.clones (by omega) (Nat.le_refl _) B6.size (by omega)
          obtain ⟨hbk, so, y4⟩ := HDV.out.tab
          have HSP : Hid (sp ≠ X.heap.size) := by
            obtain ⟨sp', so', _, _, _, _, _, _, F1, F2, ⟨-, c, -⟩, ⟨⟨_, _, _, _, hC⟩, -⟩, -, f7, -⟩ := HDV.out
            rw [y0] at c
            cases c
            exact (f7 _ hC.fs).2
          go_wp2_with fail
          refine hcl.mono ?_
          rintro e w1 ⟨hc, rfl, b1, hRC⟩
          clear hcl
          have zb := b1.size
          have e1 := b1.block sp hs1
          have e2 := b1.block X.heap.size hs2
          replace y0 := (World.cell?_of_block (a := ⟨X.heap.size, 1, none⟩) e2).trans y0
          replace y1 := (World.cell?_of_block (a := ⟨sp, 0, none⟩) e1).trans y1
          replace y3 := (World.cell?_of_block (a := ⟨sp, 2, none⟩) e1).trans y3
          replace y4 := (World.cell?_of_block (a := ⟨X.heap.size, 0, none⟩) e2).trans y4
          have HBK : Hid (Blk w1 X.heap.size 71 2) := hbk.next b1
          have SV : Hid (∀ W, Below w1.heap.size w1 W → W.cell? ⟨X.heap.size, 1, none⟩ = some (.pointer (some ⟨sp, 0, none⟩)) ∧ W.cell? ⟨sp, 0, none⟩ = some (.int .i64 l) ∧ W.cell? ⟨sp, 2, none⟩ = some (.pointer (some ⟨mp, 0, none⟩))) := fun W hW => by
            have e1 := hW.block sp (by omega)
            have e2 := hW.block X.heap.size (by omega)
            exact ⟨(World.cell?_of_block (a := ⟨X.heap.size, 1, none⟩) e2).trans y0, (World.cell?_of_block (a := ⟨sp, 0, none⟩) e1).trans y1, (World.cell?_of_block (a := ⟨sp, 2, none⟩) e1).trans y3⟩
          have SV2 : Hid (∀ W v, Below w1.heap.size w1 W → (W.setCell ⟨X.heap.size, 0, none⟩ v).cell? ⟨X.heap.size, 1, none⟩ = some (.pointer (some ⟨sp, 0, none⟩)) ∧ (W.setCell ⟨X.heap.size, 0, none⟩ v).cell? ⟨sp, 0, none⟩ = some (.int .i64 l) ∧ (W.setCell ⟨X.heap.size, 0, none⟩ v).cell? ⟨sp, 2, none⟩ = some (.pointer (some ⟨mp, 0, none⟩))) := fun W v hW => by
            obtain ⟨a1, a2, a3⟩ := SV.out W hW
            have hsp := HSP.out
            exact ⟨(World.cell?_setCell_other _ _ _ _ (by simp)).trans a1, (World.cell?_setCell_far _ _ _ _ (fun e => hsp e.symm)).trans a2, (World.cell?_setCell_far _ _ _ _ (fun e => hsp e.symm)).trans a3⟩
          have SV3 : Hid (∀ W v ob, Below w1.heap.size w1 W → ((W.setCell ⟨X.heap.size, 0, none⟩ v).alloc ob).cell? ⟨X.heap.size, 1, none⟩ = some (.pointer (some ⟨sp, 0, none⟩)) ∧ ((W.setCell ⟨X.heap.size, 0, none⟩ v).alloc ob).cell? ⟨sp, 0, none⟩ = some (.int .i64 l) ∧ ((W.setCell ⟨X.heap.size, 0, none⟩ v).alloc ob).cell? ⟨sp, 2, none⟩ = some (.pointer (some ⟨mp, 0, none⟩))) := fun W v ob hW => by
            obtain ⟨a1, a2, a3⟩ := SV2.out W v hW
            have zs : (W.setCell ⟨X.heap.size, 0, none⟩ v).heap.size = W.heap.size := by simp
            have zW := hW.size
            have nB : Below (W.setCell ⟨X.heap.size, 0, none⟩ v).heap.size (W.setCell ⟨X.heap.size, 0, none⟩ v) ((W.setCell ⟨X.heap.size, 0, none⟩ v).alloc ob) := (Below.refl _ _).alloc (Nat.le_refl _) _
            have q1 := nB.block sp (by omega)
            have q2 := nB.block X.heap.size (by omega)
            exact ⟨(World.cell?_of_block (a := ⟨X.heap.size, 1, none⟩) q2).trans a1, (World.cell?_of_block (a := ⟨sp, 0, none⟩) q1).trans a2, (World.cell?_of_block (a := ⟨sp, 2, none⟩) q1).trans a3⟩
          have wk : IntKind.i64.wrap (1 - 1) = 0 := by decide
          have wk2 : IntKind.i64.wrap 0 = 0 := by decide
          have HY4 : Hid (∀ W, Below w1.heap.size w1 W → W.cell? ⟨X.heap.size, 0, none⟩ = some (.pointer (some ⟨so, 0, none⟩)) ∧ W.frozen? ⟨X.heap.size, 0, none⟩ = false) := fun W hW => ⟨(World.cell?_of_block (a := ⟨X.heap.size, 0, none⟩) (hW.block X.heap.size (by omega))).trans y4, (HBK.out.next hW).unfrozen 0⟩
          have hcd : Below w1.heap.size w1 w1.drew := (Below.refl _ _).drew
          clear hbk y2 e1 e2 v0 v1
          go_wp2_with fail
          clear y0 y1 y3 y4
          go_region_held3 (fun w' => w'.cell? ⟨X.heap.size, 1, none⟩ = some (.pointer (some ⟨sp, 0, none⟩)) ∧ w'.cell? ⟨sp, 0, none⟩ = some (.int .i64 l) ∧ w'.cell? ⟨sp, 2, none⟩ = some (.pointer (some ⟨mp, 0, none⟩))) (first | exact SV.out _ (by assumption) | exact SV.out _ (hcd.alloc hcd.size _) | exact SV2.out _ _ (hcd.alloc hcd.size _) | exact SV3.out _ _ _ (by assumption))
            (first
            | (go_at_call 28; refine (hRC.out _ hcd).mono ?_; rintro e w2 ⟨v3', rfl, mc, rfl, hcd', hN⟩; replace hcd := hcd'; clear hcd'; obtain ⟨m1, m2⟩ := HY4.out _ hcd; have hzz : X.heap.size < w2.heap.size := by have := hcd.size; omega))
          clear SV SV2 SV3 HY4 hRC
          have HN2 := hN.out
          first | (rw [World.setCell_alloc_past (hn := hzz)] at HN2) | skip
          go_wp2_with fail
          exact ⟨⟨i + 1, by omega, by first | rfl | (push_cast; rfl) | go_num, (HN2.1.turn (by omega)).more (by omega), B6.trans HN2.2⟩, by simp [intOf]; omega⟩
        have d9' : (dop == 9) = false := by simpa using d9
        obtain ⟨sp, y0, htb, hdo⟩ := HD.out.does2 HX0 HQ.out.2.size (by omega)
        have y0' : V.cell? ⟨X.heap.size, 1, none⟩ = some (.pointer (some ⟨sp, 0, none⟩)) := (World.cell?_of_block (a := ⟨X.heap.size, 1, none⟩) (nb.block _ htb)).trans y0
        have HDO : Hid (∀ W, Below V.heap.size V W → Calls Tryd.prog 29 #[.pointer (some ⟨sp, 0, none⟩), .agg #[.int .i64 dop, .int .i64 1, .int .i64 kd, .int .i64 n, .int .i64 rk, .int .i64 rn, .string rs, .int .i64 xk, .int .i64 xn, .string xs]] W fun e w' => ∃ v, e = .returned v ∧ (v = .bool true ∧ Hid (Duo w' X.heap.size X.heap.size (i + 1) 1 ∧ Below X.heap.size X w') ∧ (w'.cell? ⟨X.heap.size, 1, none⟩ = some (.pointer (some ⟨sp, 0, none⟩)) ∧ w'.cell? ⟨wr.heap.size, 0, none⟩ = some (.int .i64 dop) ∧ w'.cell? ⟨wr.heap.size, 1, none⟩ = some (.int .i64 1) ∧ w'.cell? ⟨wr.heap.size, 2, none⟩ = some (.int .i64 kd) ∧ w'.cell? ⟨wr.heap.size, 3, none⟩ = some (.int .i64 n) ∧ w'.cell? ⟨wr.heap.size, 4, none⟩ = some (.int .i64 rk) ∧ w'.cell? ⟨wr.heap.size, 5, none⟩ = some (.int .i64 rn) ∧ w'.cell? ⟨wr.heap.size, 6, none⟩ = some (.string rs) ∧ w'.cell? ⟨wr.heap.size, 7, none⟩ = some (.int .i64 xk) ∧ w'.cell? ⟨wr.heap.size, 8, none⟩ = some (.int .i64 xn) ∧ w'.cell? ⟨wr.heap.size, 9, none⟩ = some (.string xs)))) := fun W hW => by
          have hWx := B6.trans (hW.mono B6.size)
          have zW := hW.size
          refine (hdo W (nb.trans (hW.mono nb.size)) (HX.out W hWx).2.2 dop 1 kd n rk rn rs xk xn xs t1 t2 t3).mono fun e w' ⟨e1, e2, e3, e4⟩ => ⟨_, e1, rfl, ⟨e2.out, hWx.trans e3⟩, ?_⟩
          have ea := (e4.out X.heap.size (.inr rfl) (by omega)).trans (hW.block X.heap.size (by omega))
          have eb := (e4.out wr.heap.size (.inl (Nat.le_refl _)) (by omega)).trans (hW.block wr.heap.size (by omega))
          exact ⟨(World.cell?_of_block (a := ⟨X.heap.size, 1, none⟩) ea).trans y0', (World.cell?_of_block (a := ⟨wr.heap.size, 0, none⟩) eb).trans v0, (World.cell?_of_block (a := ⟨wr.heap.size, 1, none⟩) eb).trans v1, (World.cell?_of_block (a := ⟨wr.heap.size, 2, none⟩) eb).trans v2, (World.cell?_of_block (a := ⟨wr.heap.size, 3, none⟩) eb).trans v3, (World.cell?_of_block (a := ⟨wr.heap.size, 4, none⟩) eb).trans v4, (World.cell?_of_block (a := ⟨wr.heap.size, 5, none⟩) eb).trans v5, (World.cell?_of_block (a := ⟨wr.heap.size, 6, none⟩) eb).trans v6, (World.cell?_of_block (a := ⟨wr.heap.size, 7, none⟩) eb).trans v7, (World.cell?_of_block (a := ⟨wr.heap.size, 8, none⟩) eb).trans v8, (World.cell?_of_block (a := ⟨wr.heap.size, 9, none⟩) eb).trans v9⟩
        have HC : Hid (V.cell? ⟨X.heap.size, 1, none⟩ = some (.pointer (some ⟨sp, 0, none⟩)) ∧ V.cell? ⟨wr.heap.size, 0, none⟩ = some (.int .i64 dop) ∧ V.cell? ⟨wr.heap.size, 1, none⟩ = some (.int .i64 1) ∧ V.cell? ⟨wr.heap.size, 2, none⟩ = some (.int .i64 kd) ∧ V.cell? ⟨wr.heap.size, 3, none⟩ = some (.int .i64 n) ∧ V.cell? ⟨wr.heap.size, 4, none⟩ = some (.int .i64 rk) ∧ V.cell? ⟨wr.heap.size, 5, none⟩ = some (.int .i64 rn) ∧ V.cell? ⟨wr.heap.size, 6, none⟩ = some (.string rs) ∧ V.cell? ⟨wr.heap.size, 7, none⟩ = some (.int .i64 xk) ∧ V.cell? ⟨wr.heap.size, 8, none⟩ = some (.int .i64 xn) ∧ V.cell? ⟨wr.heap.size, 9, none⟩ = some (.string xs)) := ⟨y0', v0, v1, v2, v3, v4, v5, v6, v7, v8, v9⟩
        have hcd : Below V.heap.size V V.drew := (Below.refl _ _).drew
        clear hdo y0
        go_wp2_with fail
        clear y0' v0 v1 v2 v3 v4 v5 v6 v7 v8 v9
        go_region_held3 (fun w' => w'.cell? ⟨X.heap.size, 1, none⟩ = some (.pointer (some ⟨sp, 0, none⟩)) ∧ w'.cell? ⟨wr.heap.size, 0, none⟩ = some (.int .i64 dop) ∧ w'.cell? ⟨wr.heap.size, 1, none⟩ = some (.int .i64 1) ∧ w'.cell? ⟨wr.heap.size, 2, none⟩ = some (.int .i64 kd) ∧ w'.cell? ⟨wr.heap.size, 3, none⟩ = some (.int .i64 n) ∧ w'.cell? ⟨wr.heap.size, 4, none⟩ = some (.int .i64 rk) ∧ w'.cell? ⟨wr.heap.size, 5, none⟩ = some (.int .i64 rn) ∧ w'.cell? ⟨wr.heap.size, 6, none⟩ = some (.string rs) ∧ w'.cell? ⟨wr.heap.size, 7, none⟩ = some (.int .i64 xk) ∧ w'.cell? ⟨wr.heap.size, 8, none⟩ = some (.int .i64 xn) ∧ w'.cell? ⟨wr.heap.size, 9, none⟩ = some (.string xs)) (first | exact HC.out | assumption)
          (first
          | (go_at_call 29; refine (HDO.out _ hcd).mono ?_; rintro e w2 ⟨v3', rfl, rfl, hN, hC2⟩))
        clear HC HDO hC2
        go_wp2_with fail
        exact ⟨⟨i + 1, by omega, by first | rfl | (push_cast; rfl) | go_num, hN.out.1.turn (by omega), hN.out.2⟩, by simp [intOf]; omega⟩
      have hon' : (on == 1) = false := by simpa using hon
      have HD : Hid (Duo wr X.heap.size X.heap.size i 0) := HQ.out.1
      have HDV : Hid (Duo V X.heap.size X.heap.size i 0) := HD.out.next nb
      by_cases d9 : dop = 9
      · subst d9
        obtain ⟨sp, hp, mp, l, ⟨y0, y1, y2, y3, hs1, hs2⟩, hcl⟩ := HDV.out.clones (by omega) (Nat.le_refl _) B6.size (by omega)
        obtain ⟨hbk, so, y4⟩ := HDV.out.tab
        have HSP : Hid (sp ≠ X.heap.size) := by
          obtain ⟨sp', so', _, _, _, _, _, _, F1, F2, ⟨-, c, -⟩, ⟨⟨_, _, _, _, hC⟩, -⟩, -, f7, -⟩ := HDV.out
          rw [y0] at c
          cases c
          exact (f7 _ hC.fs).2
        go_wp2_with fail
        refine hcl.mono ?_
        rintro e w1 ⟨hc, rfl, b1, hRC⟩
        clear hcl
        have zb := b1.size
        have e1 := b1.block sp hs1
        have e2 := b1.block X.heap.size hs2
        replace y0 := (World.cell?_of_block (a := ⟨X.heap.size, 0, none⟩) e2).trans y0
        replace y1 := (World.cell?_of_block (a := ⟨sp, 0, none⟩) e1).trans y1
        replace y3 := (World.cell?_of_block (a := ⟨sp, 2, none⟩) e1).trans y3
        replace y4 := (World.cell?_of_block (a := ⟨X.heap.size, 1, none⟩) e2).trans y4
        have HBK : Hid (Blk w1 X.heap.size 71 2) := hbk.next b1
        have SV : Hid (∀ W, Below w1.heap.size w1 W → W.cell? ⟨X.heap.size, 0, none⟩ = some (.pointer (some ⟨sp, 0, none⟩)) ∧ W.cell? ⟨sp, 0, none⟩ = some (.int .i64 l) ∧ W.cell? ⟨sp, 2, none⟩ = some (.pointer (some ⟨mp, 0, none⟩))) := fun W hW => by
          have e1 := hW.block sp (by omega)
          have e2 := hW.block X.heap.size (by omega)
          exact ⟨(World.cell?_of_block (a := ⟨X.heap.size, 0, none⟩) e2).trans y0, (World.cell?_of_block (a := ⟨sp, 0, none⟩) e1).trans y1, (World.cell?_of_block (a := ⟨sp, 2, none⟩) e1).trans y3⟩
        have SV2 : Hid (∀ W v, Below w1.heap.size w1 W → (W.setCell ⟨X.heap.size, 1, none⟩ v).cell? ⟨X.heap.size, 0, none⟩ = some (.pointer (some ⟨sp, 0, none⟩)) ∧ (W.setCell ⟨X.heap.size, 1, none⟩ v).cell? ⟨sp, 0, none⟩ = some (.int .i64 l) ∧ (W.setCell ⟨X.heap.size, 1, none⟩ v).cell? ⟨sp, 2, none⟩ = some (.pointer (some ⟨mp, 0, none⟩))) := fun W v hW => by
          obtain ⟨a1, a2, a3⟩ := SV.out W hW
          have hsp := HSP.out
          exact ⟨(World.cell?_setCell_other _ _ _ _ (by simp)).trans a1, (World.cell?_setCell_far _ _ _ _ (fun e => hsp e.symm)).trans a2, (World.cell?_setCell_far _ _ _ _ (fun e => hsp e.symm)).trans a3⟩
        have SV3 : Hid (∀ W v ob, Below w1.heap.size w1 W → ((W.setCell ⟨X.heap.size, 1, none⟩ v).alloc ob).cell? ⟨X.heap.size, 0, none⟩ = some (.pointer (some ⟨sp, 0, none⟩)) ∧ ((W.setCell ⟨X.heap.size, 1, none⟩ v).alloc ob).cell? ⟨sp, 0, none⟩ = some (.int .i64 l) ∧ ((W.setCell ⟨X.heap.size, 1, none⟩ v).alloc ob).cell? ⟨sp, 2, none⟩ = some (.pointer (some ⟨mp, 0, none⟩))) := fun W v ob hW => by
          obtain ⟨a1, a2, a3⟩ := SV2.out W v hW
          have zs : (W.setCell ⟨X.heap.size, 1, none⟩ v).heap.size = W.heap.size := by simp
          have zW := hW.size
          have nB : Below (W.setCell ⟨X.heap.size, 1, none⟩ v).heap.size (W.setCell ⟨X.heap.size, 1, none⟩ v) ((W.setCell ⟨X.heap.size, 1, none⟩ v).alloc ob) := (Below.refl _ _).alloc (Nat.le_refl _) _
          have q1 := nB.block sp (by omega)
          have q2 := nB.block X.heap.size (by omega)
          exact ⟨(World.cell?_of_block (a := ⟨X.heap.size, 0, none⟩) q2).trans a1, (World.cell?_of_block (a := ⟨sp, 0, none⟩) q1).trans a2, (World.cell?_of_block (a := ⟨sp, 2, none⟩) q1).trans a3⟩
        have wk : IntKind.i64.wrap (1 - 0) = 1 := by decide
        have wk2 : IntKind.i64.wrap 1 = 1 := by decide
        have HY4 : Hid (∀ W, Below w1.heap.size w1 W → W.cell? ⟨X.heap.size, 1, none⟩ = some (.pointer (some ⟨so, 0, none⟩)) ∧ W.frozen? ⟨X.heap.size, 1, none⟩ = false) := fun W hW => ⟨(World.cell?_of_block (a := ⟨X.heap.size, 1, none⟩) (hW.block X.heap.size (by omega))).trans y4, (HBK.out.next hW).unfrozen 1⟩
        have hcd : Below w1.heap.size w1 w1.drew := (Below.refl _ _).drew
        clear hbk y2 e1 e2 v0 v1
        go_wp2_with fail
        clear y0 y1 y3 y4
        go_region_held3 (fun w' => w'.cell? ⟨X.heap.size, 0, none⟩ = some (.pointer (some ⟨sp, 0, none⟩)) ∧ w'.cell? ⟨sp, 0, none⟩ = some (.int .i64 l) ∧ w'.cell? ⟨sp, 2, none⟩ = some (.pointer (some ⟨mp, 0, none⟩))) (first | exact SV.out _ (by assumption) | exact SV.out _ (hcd.alloc hcd.size _) | exact SV2.out _ _ (hcd.alloc hcd.size _) | exact SV3.out _ _ _ (by assumption))
          (first
          | (go_at_call 28; refine (hRC.out _ hcd).mono ?_; rintro e w2 ⟨v3', rfl, mc, rfl, hcd', hN⟩; replace hcd := hcd'; clear hcd'; obtain ⟨m1, m2⟩ := HY4.out _ hcd; have hzz : X.heap.size < w2.heap.size := by have := hcd.size; omega))
        clear SV SV2 SV3 HY4 hRC
        have HN2 := hN.out
        first | (rw [World.setCell_alloc_past (hn := hzz)] at HN2) | skip
        go_wp2_with fail
        exact ⟨⟨i + 1, by omega, by first | rfl | (push_cast; rfl) | go_num, HN2.1.more (by omega), B6.trans HN2.2⟩, by simp [intOf]; omega⟩
      have d9' : (dop == 9) = false := by simpa using d9
      obtain ⟨sp, y0, htb, hdo⟩ := HD.out.does2 HX0 HQ.out.2.size (by omega)
      have y0' : V.cell? ⟨X.heap.size, 0, none⟩ = some (.pointer (some ⟨sp, 0, none⟩)) := (World.cell?_of_block (a := ⟨X.heap.size, 0, none⟩) (nb.block _ htb)).trans y0
      have HDO : Hid (∀ W, Below V.heap.size V W → Calls Tryd.prog 29 #[.pointer (some ⟨sp, 0, none⟩), .agg #[.int .i64 dop, .int .i64 on, .int .i64 kd, .int .i64 n, .int .i64 rk, .int .i64 rn, .string rs, .int .i64 xk, .int .i64 xn, .string xs]] W fun e w' => ∃ v, e = .returned v ∧ (v = .bool true ∧ Hid (Duo w' X.heap.size X.heap.size (i + 1) 0 ∧ Below X.heap.size X w') ∧ (w'.cell? ⟨X.heap.size, 0, none⟩ = some (.pointer (some ⟨sp, 0, none⟩)) ∧ w'.cell? ⟨wr.heap.size, 0, none⟩ = some (.int .i64 dop) ∧ w'.cell? ⟨wr.heap.size, 1, none⟩ = some (.int .i64 on) ∧ w'.cell? ⟨wr.heap.size, 2, none⟩ = some (.int .i64 kd) ∧ w'.cell? ⟨wr.heap.size, 3, none⟩ = some (.int .i64 n) ∧ w'.cell? ⟨wr.heap.size, 4, none⟩ = some (.int .i64 rk) ∧ w'.cell? ⟨wr.heap.size, 5, none⟩ = some (.int .i64 rn) ∧ w'.cell? ⟨wr.heap.size, 6, none⟩ = some (.string rs) ∧ w'.cell? ⟨wr.heap.size, 7, none⟩ = some (.int .i64 xk) ∧ w'.cell? ⟨wr.heap.size, 8, none⟩ = some (.int .i64 xn) ∧ w'.cell? ⟨wr.heap.size, 9, none⟩ = some (.string xs)))) := fun W hW => by
        have hWx := B6.trans (hW.mono B6.size)
        have zW := hW.size
        refine (hdo W (nb.trans (hW.mono nb.size)) (HX.out W hWx).2.2 dop on kd n rk rn rs xk xn xs t1 t2 t3).mono fun e w' ⟨e1, e2, e3, e4⟩ => ⟨_, e1, rfl, ⟨e2.out, hWx.trans e3⟩, ?_⟩
        have ea := (e4.out X.heap.size (.inr rfl) (by omega)).trans (hW.block X.heap.size (by omega))
        have eb := (e4.out wr.heap.size (.inl (Nat.le_refl _)) (by omega)).trans (hW.block wr.heap.size (by omega))
        exact ⟨(World.cell?_of_block (a := ⟨X.heap.size, 0, none⟩) ea).trans y0', (World.cell?_of_block (a := ⟨wr.heap.size, 0, none⟩) eb).trans v0, (World.cell?_of_block (a := ⟨wr.heap.size, 1, none⟩) eb).trans v1, (World.cell?_of_block (a := ⟨wr.heap.size, 2, none⟩) eb).trans v2, (World.cell?_of_block (a := ⟨wr.heap.size, 3, none⟩) eb).trans v3, (World.cell?_of_block (a := ⟨wr.heap.size, 4, none⟩) eb).trans v4, (World.cell?_of_block (a := ⟨wr.heap.size, 5, none⟩) eb).trans v5, (World.cell?_of_block (a := ⟨wr.heap.size, 6, none⟩) eb).trans v6, (World.cell?_of_block (a := ⟨wr.heap.size, 7, none⟩) eb).trans v7, (World.cell?_of_block (a := ⟨wr.heap.size, 8, none⟩) eb).trans v8, (World.cell?_of_block (a := ⟨wr.heap.size, 9, none⟩) eb).trans v9⟩
      have HC : Hid (V.cell? ⟨X.heap.size, 0, none⟩ = some (.pointer (some ⟨sp, 0, none⟩)) ∧ V.cell? ⟨wr.heap.size, 0, none⟩ = some (.int .i64 dop) ∧ V.cell? ⟨wr.heap.size, 1, none⟩ = some (.int .i64 on) ∧ V.cell? ⟨wr.heap.size, 2, none⟩ = some (.int .i64 kd) ∧ V.cell? ⟨wr.heap.size, 3, none⟩ = some (.int .i64 n) ∧ V.cell? ⟨wr.heap.size, 4, none⟩ = some (.int .i64 rk) ∧ V.cell? ⟨wr.heap.size, 5, none⟩ = some (.int .i64 rn) ∧ V.cell? ⟨wr.heap.size, 6, none⟩ = some (.string rs) ∧ V.cell? ⟨wr.heap.size, 7, none⟩ = some (.int .i64 xk) ∧ V.cell? ⟨wr.heap.size, 8, none⟩ = some (.int .i64 xn) ∧ V.cell? ⟨wr.heap.size, 9, none⟩ = some (.string xs)) := ⟨y0', v0, v1, v2, v3, v4, v5, v6, v7, v8, v9⟩
      have hcd : Below V.heap.size V V.drew := (Below.refl _ _).drew
      clear hdo y0
      go_wp2_with fail
      clear y0' v0 v1 v2 v3 v4 v5 v6 v7 v8 v9
      go_region_held3 (fun w' => w'.cell? ⟨X.heap.size, 0, none⟩ = some (.pointer (some ⟨sp, 0, none⟩)) ∧ w'.cell? ⟨wr.heap.size, 0, none⟩ = some (.int .i64 dop) ∧ w'.cell? ⟨wr.heap.size, 1, none⟩ = some (.int .i64 on) ∧ w'.cell? ⟨wr.heap.size, 2, none⟩ = some (.int .i64 kd) ∧ w'.cell? ⟨wr.heap.size, 3, none⟩ = some (.int .i64 n) ∧ w'.cell? ⟨wr.heap.size, 4, none⟩ = some (.int .i64 rk) ∧ w'.cell? ⟨wr.heap.size, 5, none⟩ = some (.int .i64 rn) ∧ w'.cell? ⟨wr.heap.size, 6, none⟩ = some (.string rs) ∧ w'.cell? ⟨wr.heap.size, 7, none⟩ = some (.int .i64 xk) ∧ w'.cell? ⟨wr.heap.size, 8, none⟩ = some (.int .i64 xn) ∧ w'.cell? ⟨wr.heap.size, 9, none⟩ = some (.string xs)) (first | exact HC.out | assumption)
        (first
        | (go_at_call 29; refine (HDO.out _ hcd).mono ?_; rintro e w2 ⟨v3', rfl, rfl, hN, hC2⟩))
      clear HC HDO hC2
      go_wp2_with fail
      exact ⟨⟨i + 1, by omega, by first | rfl | (push_cast; rfl) | go_num, hN.out.1, hN.out.2⟩, by simp [intOf]; omega⟩
end Go.Proofs.YtdcioemjmmhbhaaDoor
