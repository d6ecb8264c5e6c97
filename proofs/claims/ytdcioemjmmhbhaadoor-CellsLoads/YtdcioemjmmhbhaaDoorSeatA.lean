import Derived.Test.YtdcioemjmmhbhaaDoorLoad
import Derived.Test.YtdcioemjmmhbhaaDoorClone
import Derived.Test.YtdcioemjmmhbhaaDoorTakes
import Derived.Test.YtdcioemjmmhbhaaDoorRSv
import Derived.Test.YtdcioemjmmhbhaaDoorRCl
import Derived.Test.YtdcioemjmmhbhaaDoorRSame
import Derived.Test.YtdcioemjmmhbhaaDoorArrs
namespace Go.Proofs.YtdcioemjmmhbhaaDoor
open Go.RowKit

def rngA (A : Hp) : Prop := ∀ a ∈ A, ∀ v ∈ a.2, inR v.2.1
theorem rng_take {A : Hp} {lim : Nat} {s : Sp} (h : rngA A) (hx : inR s.x.2.1) : rngA (takeS A lim s).1 := by
  unfold takeS
  split
  · unfold makeH
    split
    · exact h
    split
    · exact h
    split
    · exact h
    · intro a ha v hv
      rcases List.mem_append.1 ha with q | q
      · exact h a q v hv
      · obtain rfl := List.mem_singleton.1 q
        obtain rfl := List.eq_of_mem_replicate hv
        exact ⟨by show (-9223372036854775808 : Int) ≤ 0; decide, by show (0 : Int) ≤ 9223372036854775807; decide⟩
  split
  · unfold putH
    split
    · split
      · exact h
      · intro a ha v hv
        obtain ⟨i, hi, e⟩ := List.mem_iff_getElem.1 ha
        have hi' : i < A.length := by simpa using hi
        have e2 : (A.modify (s.r.2.1.toNat - 1) fun a => (a.1, a.2.set s.n.toNat s.x))[i]? = some a := by rw [List.getElem?_eq_getElem hi, e]
        rw [List.getElem?_modify, List.getElem?_eq_getElem hi'] at e2
        have hmem := List.getElem_mem hi'
        simp only [Option.map_eq_map, Option.map_some, Option.some.injEq] at e2
        split at e2
        · subst e2
          rcases List.mem_or_eq_of_mem_set hv with q | rfl
          · exact h _ hmem v q
          · exact hx
        · subst e2
          exact h _ hmem v hv
    · exact h
  · exact h
theorem HeapOf.kinds {w : World} {p lim : Nat} {A : Hp} {F : Nat → Prop} (h : HeapOf w p lim A F) : usedS A ≤ lim ∧ ∀ a ∈ A, 1 ≤ a.1 ∧ a.1 ≤ 4 := by
  obtain ⟨As, rq, rn, rg, ro, av, rfl, h⟩ := h
  refine ⟨h.le, fun a ha => ?_⟩
  unfold absA at ha
  obtain ⟨b, hb, rfl⟩ := List.mem_map.1 ha
  exact (h.ok b hb).1
theorem HeapOf.okH {w : World} {p lim : Nat} {A : Hp} {F : Nat → Prop} (h : HeapOf w p lim A F) (hr : rngA A) : okH A A.length := fun a ha => ⟨h.kinds.2 a ha, fun v hv => ⟨h.ok a ha v hv, hr a ha v hv⟩⟩

/-- Four heaps that share nothing. -/
def Quad (w : World) (B lim p1 p2 p3 p4 : Nat) (A1 A2 A3 A4 : Hp) : Prop := ∃ F1 F2 F3 F4 : Nat → Prop, (HeapOf w p1 lim A1 F1 ∧ HeapOf w p2 lim A2 F2 ∧ HeapOf w p3 lim A3 F3 ∧ HeapOf w p4 lim A4 F4) ∧
  ((∀ b, F1 b → B ≤ b ∧ ¬ F2 b ∧ ¬ F3 b ∧ ¬ F4 b) ∧ (∀ b, F2 b → B ≤ b ∧ ¬ F1 b ∧ ¬ F3 b ∧ ¬ F4 b) ∧ (∀ b, F3 b → B ≤ b ∧ ¬ F1 b ∧ ¬ F2 b ∧ ¬ F4 b) ∧ (∀ b, F4 b → B ≤ b ∧ ¬ F1 b ∧ ¬ F2 b ∧ ¬ F3 b))
theorem Quad.next {w w' : World} {B lim p1 p2 p3 p4 : Nat} {A1 A2 A3 A4 : Hp} (h : Quad w B lim p1 p2 p3 p4 A1 A2 A3 A4) (k : Below w.heap.size w w') : Quad w' B lim p1 p2 p3 p4 A1 A2 A3 A4 := by
  obtain ⟨F1, F2, F3, F4, ⟨h1, h2, h3, h4⟩, q⟩ := h
  exact ⟨F1, F2, F3, F4, ⟨h1.next k, h2.next k, h3.next k, h4.next k⟩, q⟩
theorem quad_take1 {w : World} {B lim p1 p2 p3 p4 : Nat} {A1 A2 A3 A4 : Hp} (h : Quad w B lim p1 p2 p3 p4 A1 A2 A3 A4) (hz : Zt w) (hB : 0 < B) (hBw : B ≤ w.heap.size) (dop on kd n : Int) (rk rn : Int) (rs : ByteArray) (xk xn : Int) (xs : ByteArray) (hrs : rs.size ≤ 9223372036854775807) (hxs : xs.size ≤ 9223372036854775807) :
    Calls Tryd.prog 15 #[.pointer (some ⟨p1, 0, none⟩), .agg #[.int .i64 dop, .int .i64 on, .int .i64 kd, .int .i64 n, .int .i64 rk, .int .i64 rn, .string rs, .int .i64 xk, .int .i64 xn, .string xs]] w fun e w' => e = .returned (.int .i64 (takeS A1 lim ⟨dop, on, kd, n, (rk, rn, rs), (xk, xn, xs)⟩).2) ∧ Hid (Quad w' B lim p1 p2 p3 p4 (takeS A1 lim ⟨dop, on, kd, n, (rk, rn, rs), (xk, xn, xs)⟩).1 A2 A3 A4) ∧ Below B w w' := by
  obtain ⟨F1, F2, F3, F4, ⟨h1, h2, h3, h4⟩, q1, q2, q3, q4⟩ := h
  refine (takes_any h1 hz (fun e => by have := (q1 0 e).1; omega) dop on kd n rk rn rs xk xn xs hrs hxs).mono fun e w' ⟨r1, F', r2, r3, r4⟩ => ⟨r1, ?_, r3.below (fun k hk => (q1 k hk).1) hBw⟩
  have n2 := h2.kept r3 (fun b hb => (q2 b hb).2.1)
  have n3 := h3.kept r3 (fun b hb => (q3 b hb).2.1)
  have n4 := h4.kept r3 (fun b hb => (q4 b hb).2.1)
  refine ⟨F', F2, F3, F4, ⟨r2, n2, n3, n4⟩, ?_, ?_, ?_, ?_⟩
  · intro b hb
    rcases r4 b hb with s | s
    · exact q1 b s
    · refine ⟨by omega, fun e => ?_, fun e => ?_, fun e => ?_⟩
      · have := h2.flt b e
        omega
      · have := h3.flt b e
        omega
      · have := h4.flt b e
        omega
  · intro b hb
    obtain ⟨t1, t2, t3, t4⟩ := q2 b hb
    have hlt := h2.flt b hb
    refine ⟨t1, fun e => by rcases r4 b e with s | s; exact t2 s; omega, t3, t4⟩
  · intro b hb
    obtain ⟨t1, t2, t3, t4⟩ := q3 b hb
    have hlt := h3.flt b hb
    refine ⟨t1, fun e => by rcases r4 b e with s | s; exact t2 s; omega, t3, t4⟩
  · intro b hb
    obtain ⟨t1, t2, t3, t4⟩ := q4 b hb
    have hlt := h4.flt b hb
    refine ⟨t1, fun e => by rcases r4 b e with s | s; exact t2 s; omega, t3, t4⟩
theorem quad_take2 {w : World} {B lim p1 p2 p3 p4 : Nat} {A1 A2 A3 A4 : Hp} (h : Quad w B lim p1 p2 p3 p4 A1 A2 A3 A4) (hz : Zt w) (hB : 0 < B) (hBw : B ≤ w.heap.size) (dop on kd n : Int) (rk rn : Int) (rs : ByteArray) (xk xn : Int) (xs : ByteArray) (hrs : rs.size ≤ 9223372036854775807) (hxs : xs.size ≤ 9223372036854775807) :
    Calls Tryd.prog 15 #[.pointer (some ⟨p2, 0, none⟩), .agg #[.int .i64 dop, .int .i64 on, .int .i64 kd, .int .i64 n, .int .i64 rk, .int .i64 rn, .string rs, .int .i64 xk, .int .i64 xn, .string xs]] w fun e w' => e = .returned (.int .i64 (takeS A2 lim ⟨dop, on, kd, n, (rk, rn, rs), (xk, xn, xs)⟩).2) ∧ Hid (Quad w' B lim p1 p2 p3 p4 A1 (takeS A2 lim ⟨dop, on, kd, n, (rk, rn, rs), (xk, xn, xs)⟩).1 A3 A4) ∧ Below B w w' := by
  obtain ⟨F1, F2, F3, F4, ⟨h1, h2, h3, h4⟩, q1, q2, q3, q4⟩ := h
  refine (takes_any h2 hz (fun e => by have := (q2 0 e).1; omega) dop on kd n rk rn rs xk xn xs hrs hxs).mono fun e w' ⟨r1, F', r2, r3, r4⟩ => ⟨r1, ?_, r3.below (fun k hk => (q2 k hk).1) hBw⟩
  have n1 := h1.kept r3 (fun b hb => (q1 b hb).2.1)
  have n3 := h3.kept r3 (fun b hb => (q3 b hb).2.2.1)
  have n4 := h4.kept r3 (fun b hb => (q4 b hb).2.2.1)
  refine ⟨F1, F', F3, F4, ⟨n1, r2, n3, n4⟩, ?_, ?_, ?_, ?_⟩
  · intro b hb
    obtain ⟨t1, t2, t3, t4⟩ := q1 b hb
    have hlt := h1.flt b hb
    refine ⟨t1, fun e => by rcases r4 b e with s | s; exact t2 s; omega, t3, t4⟩
  · intro b hb
    rcases r4 b hb with s | s
    · exact q2 b s
    · refine ⟨by omega, fun e => ?_, fun e => ?_, fun e => ?_⟩
      · have := h1.flt b e
        omega
      · have := h3.flt b e
        omega
      · have := h4.flt b e
        omega
  · intro b hb
    obtain ⟨t1, t2, t3, t4⟩ := q3 b hb
    have hlt := h3.flt b hb
    refine ⟨t1, t2, fun e => by rcases r4 b e with s | s; exact t3 s; omega, t4⟩
  · intro b hb
    obtain ⟨t1, t2, t3, t4⟩ := q4 b hb
    have hlt := h4.flt b hb
    refine ⟨t1, t2, fun e => by rcases r4 b e with s | s; exact t3 s; omega, t4⟩
theorem quad_take3 {w : World} {B lim p1 p2 p3 p4 : Nat} {A1 A2 A3 A4 : Hp} (h : Quad w B lim p1 p2 p3 p4 A1 A2 A3 A4) (hz : Zt w) (hB : 0 < B) (hBw : B ≤ w.heap.size) (dop on kd n : Int) (rk rn : Int) (rs : ByteArray) (xk xn : Int) (xs : ByteArray) (hrs : rs.size ≤ 9223372036854775807) (hxs : xs.size ≤ 9223372036854775807) :
    Calls Tryd.prog 15 #[.pointer (some ⟨p3, 0, none⟩), .agg #[.int .i64 dop, .int .i64 on, .int .i64 kd, .int .i64 n, .int .i64 rk, .int .i64 rn, .string rs, .int .i64 xk, .int .i64 xn, .string xs]] w fun e w' => e = .returned (.int .i64 (takeS A3 lim ⟨dop, on, kd, n, (rk, rn, rs), (xk, xn, xs)⟩).2) ∧ Hid (Quad w' B lim p1 p2 p3 p4 A1 A2 (takeS A3 lim ⟨dop, on, kd, n, (rk, rn, rs), (xk, xn, xs)⟩).1 A4) ∧ Below B w w' := by
  obtain ⟨F1, F2, F3, F4, ⟨h1, h2, h3, h4⟩, q1, q2, q3, q4⟩ := h
  refine (takes_any h3 hz (fun e => by have := (q3 0 e).1; omega) dop on kd n rk rn rs xk xn xs hrs hxs).mono fun e w' ⟨r1, F', r2, r3, r4⟩ => ⟨r1, ?_, r3.below (fun k hk => (q3 k hk).1) hBw⟩
  have n1 := h1.kept r3 (fun b hb => (q1 b hb).2.2.1)
  have n2 := h2.kept r3 (fun b hb => (q2 b hb).2.2.1)
  have n4 := h4.kept r3 (fun b hb => (q4 b hb).2.2.2)
  refine ⟨F1, F2, F', F4, ⟨n1, n2, r2, n4⟩, ?_, ?_, ?_, ?_⟩
  · intro b hb
    obtain ⟨t1, t2, t3, t4⟩ := q1 b hb
    have hlt := h1.flt b hb
    refine ⟨t1, t2, fun e => by rcases r4 b e with s | s; exact t3 s; omega, t4⟩
  · intro b hb
    obtain ⟨t1, t2, t3, t4⟩ := q2 b hb
    have hlt := h2.flt b hb
    refine ⟨t1, t2, fun e => by rcases r4 b e with s | s; exact t3 s; omega, t4⟩
  · intro b hb
    rcases r4 b hb with s | s
    · exact q3 b s
    · refine ⟨by omega, fun e => ?_, fun e => ?_, fun e => ?_⟩
      · have := h1.flt b e
        omega
      · have := h2.flt b e
        omega
      · have := h4.flt b e
        omega
  · intro b hb
    obtain ⟨t1, t2, t3, t4⟩ := q4 b hb
    have hlt := h4.flt b hb
    refine ⟨t1, t2, t3, fun e => by rcases r4 b e with s | s; exact t4 s; omega⟩


/-- A seat in memory: a heap of the program and one of the reference that say the same. -/
structure SeatC (w : World) (sp : Nat) (l0 : Int) (lim : Nat) (A : Hp) (N hp mp : Nat) (FH FM F : Nat → Prop) : Prop where
  blk : Blk w sp 74 3
  c0 : w.cell? ⟨sp, 0, none⟩ = some (.int .i64 l0)
  c1 : w.cell? ⟨sp, 1, none⟩ = some (.pointer (some ⟨hp, 0, none⟩))
  c2 : w.cell? ⟨sp, 2, none⟩ = some (.pointer (some ⟨mp, 0, none⟩))
  hh : HeapOf w hp lim A FH
  hm : RefOf w mp lim A N FM
  fh : ∀ b, FH b → F b ∧ ¬ FM b ∧ b ≠ sp
  fm : ∀ b, FM b → F b ∧ b ≠ sp
  fs : F sp
  flt : ∀ b, F b → b < w.heap.size
  lm : limS l0 = lim
  rg : rngA A
def SeatAt (w : World) (sp : Nat) (l0 : Int) (lim : Nat) (A : Hp) (N : Nat) (F : Nat → Prop) : Prop := ∃ hp mp FH FM, SeatC w sp l0 lim A N hp mp FH FM F
theorem SeatC.same {w w' : World} {sp : Nat} {l0 : Int} {lim : Nat} {A : Hp} {N hp mp : Nat} {FH FM F : Nat → Prop} (h : SeatC w sp l0 lim A N hp mp FH FM F) (hk : ∀ b, F b → w'.heap[b]? = w.heap[b]?) (hs : w.heap.size ≤ w'.heap.size) : SeatC w' sp l0 lim A N hp mp FH FM F where
  blk := h.blk.same (hk sp h.fs)
  c0 := (World.cell?_of_block (w := w) (a := ⟨sp, 0, none⟩) (hk sp h.fs)).trans h.c0
  c1 := (World.cell?_of_block (w := w) (a := ⟨sp, 1, none⟩) (hk sp h.fs)).trans h.c1
  c2 := (World.cell?_of_block (w := w) (a := ⟨sp, 2, none⟩) (hk sp h.fs)).trans h.c2
  hh := h.hh.same (fun b hb => hk b (h.fh b hb).1) hs
  hm := h.hm.same (fun b hb => hk b (h.fm b hb).1) hs
  fh := h.fh
  fm := h.fm
  fs := h.fs
  flt b hb := Nat.lt_of_lt_of_le (h.flt b hb) hs
  lm := h.lm
  rg := h.rg
theorem SeatC.next {w w' : World} {sp : Nat} {l0 : Int} {lim : Nat} {A : Hp} {N hp mp : Nat} {FH FM F : Nat → Prop} (h : SeatC w sp l0 lim A N hp mp FH FM F) (k : Below w.heap.size w w') : SeatC w' sp l0 lim A N hp mp FH FM F := h.same (fun b hb => k.block b (h.flt b hb)) k.size
theorem SeatC.txt {w : World} {sp : Nat} {l0 : Int} {lim : Nat} {A : Hp} {N hp mp : Nat} {FH FM F : Nat → Prop} (h : SeatC w sp l0 lim A N hp mp FH FM F) : ∀ a ∈ A, ∀ v ∈ a.2, v.2.2.size ≤ 256 := fun a ha v hv => may_small (h.hh.ok a ha v hv)
/-- The program's heap has gone on, then the reference's: both say the same again. -/
theorem SeatC.goes {w w3 w4 w5 w' : World} {sp : Nat} {l0 : Int} {lim : Nat} {A A' : Hp} {N N' hp mp : Nat} {FH FM F FH' FM' : Nat → Prop} (h : SeatC w sp l0 lim A N hp mp FH FM F) (k1 : Kp FH w w3) (h1 : HeapOf w3 hp lim A' FH') (f1 : ∀ b, FH' b → FH b ∨ w.heap.size ≤ b) (k2 : Below w3.heap.size w3 w4) (k3 : Kp FM w4 w5) (h2 : RefOf w5 mp lim A' N' FM') (f2 : ∀ b, FM' b → FM b ∨ w4.heap.size ≤ b) (k4 : Below w5.heap.size w5 w') (hr : rngA A') :
    ∃ F', SeatAt w' sp l0 lim A' N' F' ∧ Kp F w w' ∧ ∀ b, F' b → F b ∨ w.heap.size ≤ b := by
  have z1 := k1.size
  have z2 := k2.size
  have z3 := k3.size
  have z4 := k4.size
  have hmlt := h.hm.flt
  have hF1 : ∀ b, FH' b → ¬ FM b := fun b hb hm => by
    rcases f1 b hb with q | q
    · exact (h.fh b q).2.1 hm
    · have := hmlt b hm; omega
  have hspH : ∀ b, FH' b → b ≠ sp := fun b hb e => by
    rcases f1 b hb with q | q
    · exact (h.fh b q).2.2 e
    · have := h.blk.lt; omega
  have hspM : ∀ b, FM' b → b ≠ sp := fun b hb e => by
    rcases f2 b hb with q | q
    · exact (h.fm b q).2 e
    · have := h.blk.lt; omega
  have hsp : ∀ x, x < w.heap.size → ¬ FH x → ¬ FM x → w'.heap[x]? = w.heap[x]? := fun x hx n1 n2 =>
    (k4.block x (by omega)).trans ((k3.block x (by omega) n2).trans ((k2.block x (by omega)).trans (k1.block x hx n1)))
  have esp : w'.heap[sp]? = w.heap[sp]? := hsp sp h.blk.lt (fun q => (h.fh sp q).2.2 rfl) (fun q => (h.fm sp q).2 rfl)
  have h1' : HeapOf w' hp lim A' FH' := ((h1.next k2).kept k3 hF1).next k4
  refine ⟨fun b => F b ∨ FH' b ∨ FM' b, ⟨hp, mp, FH', FM', ?_⟩, ?_, fun b hb => ?_⟩
  · exact {
      blk := h.blk.same esp
      c0 := (World.cell?_of_block (w := w) (a := ⟨sp, 0, none⟩) esp).trans h.c0
      c1 := (World.cell?_of_block (w := w) (a := ⟨sp, 1, none⟩) esp).trans h.c1
      c2 := (World.cell?_of_block (w := w) (a := ⟨sp, 2, none⟩) esp).trans h.c2
      hh := h1'
      hm := h2.next k4
      fh := fun b hb => ⟨.inr (.inl hb), fun q => by
        rcases f2 b q with r | r
        · exact hF1 b hb r
        · have := h1.flt b hb; omega, hspH b hb⟩
      fm := fun b hb => ⟨.inr (.inr hb), hspM b hb⟩
      fs := .inl h.fs
      flt := fun b hb => by
        rcases hb with q | q | q
        · have := h.flt b q; omega
        · exact h1'.flt b q
        · exact (h2.next k4).flt b q
      lm := h.lm
      rg := hr }
  · exact ⟨k4.os.trans (k3.os.trans (k2.os.trans k1.os)), k4.tape.trans (k3.tape.trans (k2.tape.trans k1.tape)), k4.output.trans (k3.output.trans (k2.output.trans k1.output)), by omega, fun x hx hn => hsp x hx (fun q => hn (h.fh x q).1) (fun q => hn (h.fm x q).1)⟩
  · rcases hb with q | q | q
    · exact .inl q
    · rcases f1 b q with r | r
      · exact .inl (h.fh b r).1
      · exact .inr r
    · rcases f2 b q with r | r
      · exact .inl (h.fm b r).1
      · exact .inr (by omega)
/-- Nothing of the heaps has turned. -/
theorem SeatC.rests {w w' : World} {sp : Nat} {l0 : Int} {lim : Nat} {A : Hp} {N hp mp : Nat} {FH FM F : Nat → Prop} (h : SeatC w sp l0 lim A N hp mp FH FM F) (k : Below w.heap.size w w') : ∃ F', SeatAt w' sp l0 lim A N F' ∧ Kp F w w' ∧ ∀ b, F' b → F b ∨ w.heap.size ≤ b := ⟨F, ⟨hp, mp, FH, FM, h.next k⟩, Kp.of k, fun _ hb => .inl hb⟩

theorem callM (a b c : Value) (w : World) : (callFunc 20 #[a, b, c]).run Tryd.prog w = .ok (.enter 20 #[a, b, c]) w := by kernel_rfl
theorem callRM (a b c : Value) (w : World) : (callFunc 45 #[a, b, c]).run Tryd.prog w = .ok (.enter 45 #[a, b, c]) w := by kernel_rfl

/-- A value that was laid ahead of the call is there behind it. -/
theorem keep3 {X w3 : World} {FH : Nat → Prop} {P : (Nat → Prop) → Prop} {Q : (Nat → Prop) → Prop} (hf : ∀ b, FH b → b < X.heap.size) (hq : Hid (∃ F', P F' ∧ Kp FH (X.drew.alloc (.cells #[.int .i64 0, .int .i64 0, .string ⟨#[]⟩] 37)) w3 ∧ Q F')) : Box3 w3 X.heap.size 0 0 ⟨#[]⟩ := by
  obtain ⟨F', _, k, _⟩ := hq.out
  have b := Box3.new X.drew 0 0 ⟨#[]⟩ 37
  exact b.same (k.block X.heap.size (by simp) (fun q => by have := hf _ q; omega))
/-- What a call has made of a heap. -/
def Gone (X W : World) (FH : Nat → Prop) (R : World → (Nat → Prop) → Prop) : Prop := ∃ F', R W F' ∧ Kp FH X W ∧ ∀ b, F' b → FH b ∨ X.heap.size ≤ b
theorem leaf1 {X w3 : World} {FH : Nat → Prop} {R : World → (Nat → Prop) → Prop} (mk mn : Int) (ms : ByteArray) (hR : ∀ W W' F', R W F' → (∀ b, F' b → W'.heap[b]? = W.heap[b]?) → W.heap.size ≤ W'.heap.size → R W' F') (hL : ∀ W F', R W F' → ∀ b, F' b → b < W.heap.size) (hq : Hid (∃ F', R w3 F' ∧ Kp FH X.drew w3 ∧ ∀ b, F' b → FH b ∨ X.drew.heap.size ≤ b)) :
    Gone X (w3.alloc (.cells #[.int .i64 mk, .int .i64 mn, .string ms] 37)) FH R ∧ Box3 (w3.alloc (.cells #[.int .i64 mk, .int .i64 mn, .string ms] 37)) w3.heap.size mk mn ms ∧ X.heap.size ≤ w3.heap.size ∧ w3.heap.size < (w3.alloc (.cells #[.int .i64 mk, .int .i64 mn, .string ms] 37)).heap.size := by
  obtain ⟨F', h1, h2, h3⟩ := hq.out
  have nb : Below w3.heap.size w3 (w3.alloc (.cells #[.int .i64 mk, .int .i64 mn, .string ms] 37)) := (Below.refl _ w3).alloc (Nat.le_refl _) _
  exact ⟨⟨F', hR _ _ _ h1 (fun b hb => nb.block b (hL _ _ h1 b hb)) nb.size, (((Kp.of (F := FH) (Below.refl _ X).drew).trans h2 (fun _ _ q => q)).next nb), h3⟩, Box3.new _ _ _ _ _, h2.size, by simp⟩
theorem leaf2 {X w3 : World} {FH : Nat → Prop} {R : World → (Nat → Prop) → Prop} (mk mn : Int) (ms : ByteArray) (hf : ∀ b, FH b → b < X.heap.size) (hR : ∀ W W' F', R W F' → (∀ b, F' b → W'.heap[b]? = W.heap[b]?) → W.heap.size ≤ W'.heap.size → R W' F') (hq : Hid (∃ F', R w3 F' ∧ Kp FH (X.drew.alloc (.cells #[.int .i64 0, .int .i64 0, .string ⟨#[]⟩] 37)) w3 ∧ ∀ b, F' b → FH b ∨ (X.drew.alloc (.cells #[.int .i64 0, .int .i64 0, .string ⟨#[]⟩] 37)).heap.size ≤ b)) :
    Gone X (put3 w3 X.heap.size mk mn ms) FH R ∧ Box3 (put3 w3 X.heap.size mk mn ms) X.heap.size mk mn ms ∧ X.heap.size ≤ X.heap.size ∧ X.heap.size < (put3 w3 X.heap.size mk mn ms).heap.size := by
  have b3 := keep3 (P := R w3) (Q := fun F' => ∀ b, F' b → FH b ∨ (X.drew.alloc (.cells #[.int .i64 0, .int .i64 0, .string ⟨#[]⟩] 37)).heap.size ≤ b) hf hq
  obtain ⟨F', h1, h2, h3⟩ := hq.out
  have z := h2.size
  rw [World.size_alloc] at z
  have z' : X.heap.size + 1 ≤ w3.heap.size := z
  have hne : ∀ b, F' b → b ≠ X.heap.size := fun b hb e => by
    rcases h3 b hb with q | q
    · have := hf b q; omega
    · rw [World.size_alloc] at q
      have q' : X.heap.size + 1 ≤ b := q
      omega
  refine ⟨⟨F', hR _ _ _ h1 (fun b hb => put3_heap (hne b hb)) (by rw [put3_size]; exact Nat.le_refl _), ?_, fun b hb => ?_⟩, b3.put mk mn ms, Nat.le_refl _, by rw [put3_size]; omega⟩
  · have k0 : Kp FH X w3 := (Kp.of (F := FH) (((Below.refl _ X).drew).alloc (Nat.le_refl _) (.cells #[.int .i64 0, .int .i64 0, .string ⟨#[]⟩] 37))).trans h2 (fun _ _ q => q)
    exact ((k0.setCell (p := ⟨X.heap.size, 0, none⟩) (.inr (Nat.le_refl _)) _).setCell (p := ⟨X.heap.size, 1, none⟩) (.inr (Nat.le_refl _)) _).setCell (p := ⟨X.heap.size, 2, none⟩) (.inr (Nat.le_refl _)) _
  · rcases h3 b hb with q | q
    · exact .inl q
    · rw [World.size_alloc] at q
      have q' : X.heap.size + 1 ≤ b := q
      exact .inr (by omega)
theorem eqlVV (k n : Int) (s : ByteArray) : ∀ w : World, (binOp BinOp.eql 37 (.agg #[.int .i64 k, .int .i64 n, .string s]) (.agg #[.int .i64 k, .int .i64 n, .string s])).run Tryd.prog w = .ok (.bool true) w := by
  intro w
  simp [go_sem]

set_option maxRecDepth 100000 in
set_option maxHeartbeats 4000000 in
theorem does1 {w : World} {sp : Nat} {l0 : Int} {lim : Nat} {A : Hp} {N : Nat} {F : Nat → Prop} (h : SeatAt w sp l0 lim A N F) (hz : Zt w) (hF : ¬ F 0) (on kd n : Int) (rk rn : Int) (rs : ByteArray) (xk xn : Int) (xs : ByteArray) (hxr : inR xn) :
    Calls Tryd.prog 29 #[.pointer (some ⟨sp, 0, none⟩), .agg #[.int .i64 1, .int .i64 on, .int .i64 kd, .int .i64 n, .int .i64 rk, .int .i64 rn, .string rs, .int .i64 xk, .int .i64 xn, .string xs]] w fun e w' => e = .returned (.bool true) ∧ Hid (∃ A' F', SeatAt w' sp l0 lim A' N F' ∧ Kp F w w' ∧ ∀ b, F' b → F b ∨ w.heap.size ≤ b) := by
  obtain ⟨hp, mp, FH, FM, h⟩ := h
  have B0 : Below w.heap.size w (w.alloc (.cells #[.int .i64 1, .int .i64 on, .int .i64 kd, .int .i64 n, .int .i64 rk, .int .i64 rn, .string rs, .int .i64 xk, .int .i64 xn, .string xs] 39)) := (Below.refl _ w).alloc (Nat.le_refl _) _
  have sn := sc_new w ⟨1, on, kd, n, (rk, rn, rs), (xk, xn, xs)⟩ 39
  unfold sc at sn
  simp only at sn
  have hzX0 : w.heap.size < (w.alloc (.cells #[.int .i64 1, .int .i64 on, .int .i64 kd, .int .i64 n, .int .i64 rk, .int .i64 rn, .string rs, .int .i64 xk, .int .i64 xn, .string xs] 39)).heap.size := by simp
  go_enter Tryd.func29, Tryd.ntmps29
  go_upto_region 1 with fail
  generalize w.alloc (.cells #[.int .i64 1, .int .i64 on, .int .i64 kd, .int .i64 n, .int .i64 rk, .int .i64 rn, .string rs, .int .i64 xk, .int .i64 xn, .string xs] 39) = X at B0 sn hzX0 ⊢
  have hX := h.next B0
  have hzX : Zt X := hz.same (B0.block 0 hz.pos)
  have v0 : X.cell? ⟨w.heap.size, 0, none⟩ = some (.int .i64 1) := sn 0 _ rfl
  have v2 : X.cell? ⟨w.heap.size, 2, none⟩ = some (.int .i64 kd) := sn 2 _ rfl
  have v3 : X.cell? ⟨w.heap.size, 3, none⟩ = some (.int .i64 n) := sn 3 _ rfl
  have c1 := hX.c1
  have HFH : Hid (∀ b, FH b → b < X.heap.size) := hX.hh.flt
  have hFH0 : ¬ FH 0 := fun q => hF (h.fh 0 q).1
  obtain ⟨M, hM⟩ : ∃ M, makeH A lim kd n = M := ⟨_, rfl⟩
  obtain ⟨M1, ⟨mk, mn, ms⟩, mt⟩ := M
  have HMK : Hid (∀ W, Below X.heap.size X W → Calls Tryd.prog 20 #[.pointer (some ⟨hp, 0, none⟩), .int .i64 kd, .int .i64 n] W fun e w' => ∃ v, e = .returned v ∧ (v = .tuple #[.agg #[.int .i64 mk, .int .i64 mn, .string ms], .int .i64 mt] ∧ Hid (∃ F', HeapOf w' hp lim M1 F' ∧ Kp FH W w' ∧ ∀ b, F' b → FH b ∨ W.heap.size ≤ b))) := fun W hW => by
    have := make_any (hX.hh.next hW) (hzX.same (hW.block 0 hzX.pos)) hFH0 kd n
    rw [hM] at this
    exact this.mono fun e w' ⟨e1, e2⟩ => ⟨_, e1, rfl, e2⟩
  have SV : Hid (∀ W, Kp FH X W → W.cell? ⟨sp, 1, none⟩ = some (.pointer (some ⟨hp, 0, none⟩)) ∧ W.cell? ⟨w.heap.size, 2, none⟩ = some (.int .i64 kd) ∧ W.cell? ⟨w.heap.size, 3, none⟩ = some (.int .i64 n) ∧ Kp FH X W) := fun W hW => by
    have e1 := hW.block sp hX.blk.lt (fun q => (hX.fh sp q).2.2 rfl)
    have e2 := hW.block w.heap.size hzX0 (fun q => by have := h.flt _ (h.fh _ q).1; omega)
    exact ⟨(World.cell?_of_block (a := ⟨sp, 1, none⟩) e1).trans c1, (World.cell?_of_block (a := ⟨w.heap.size, 2, none⟩) e2).trans v2, (World.cell?_of_block (a := ⟨w.heap.size, 3, none⟩) e2).trans v3, hW⟩
  have hcd : Kp FH X X.drew := Kp.of (Below.refl _ _).drew
  have HMM : Hid (makeH A lim kd n = (M1, (mk, mn, ms), mt)) := hM
  have HRG : Hid (rngA M1) := by
    have := rng_take (lim := lim) (s := ⟨1, on, kd, n, (rk, rn, rs), (xk, xn, xs)⟩) h.rg hxr
    unfold takeS at this
    rw [if_pos rfl, hM] at this
    exact this
  clear sn hM
  go_wp2_with fail
  clear v0
  go_region_held3 (fun w' => w'.cell? ⟨sp, 1, none⟩ = some (.pointer (some ⟨hp, 0, none⟩)) ∧ w'.cell? ⟨w.heap.size, 2, none⟩ = some (.int .i64 kd) ∧ w'.cell? ⟨w.heap.size, 3, none⟩ = some (.int .i64 n) ∧ Kp FH X w') (first | exact SV.out _ (by assumption) | exact SV.out _ (Kp.alloc (by assumption) _) | exact SV.out _ (Kp.setCell (Kp.setCell (Kp.setCell (by assumption) (.inr (Nat.le_refl _)) _) (.inr (Nat.le_refl _)) _) (.inr (Nat.le_refl _)) _) | exact SV.out _ (Kp.setCell (Kp.setCell (Kp.setCell (Kp.alloc (by assumption) _) (.inr hz3) _) (.inr hz3) _) (.inr hz3) _))
    (first
    | (go_at_call 20; refine (HMK.out _ (by first | exact (Below.refl _ _).drew | exact ((Below.refl _ _).drew).alloc (Nat.le_refl _) _)).mono ?_; rintro e w3 ⟨v3', rfl, rfl, hq3⟩; replace hcd : Kp FH X w3 := (by obtain ⟨F', -, k, -⟩ := hq3.out; first | exact (Kp.of (F := FH) (Below.refl _ X).drew).trans k (fun _ _ q => q) | exact (Kp.of (F := FH) (((Below.refl _ X).drew).alloc (Nat.le_refl _) _)).trans k (fun _ _ q => q)); have hz3 : X.heap.size ≤ w3.heap.size := hcd.size; first | (obtain ⟨⟨⟨y0, g0⟩, ⟨y1, g1⟩⟩, y2, g2⟩ := keep3 HFH.out hq3) | skip))
  all_goals
    clear hcd SV HMK hz3
    try clear y0 y1 y2 g0 g1 g2
    first
      | (have HG0 := leaf1 (X := X) mk mn ms (R := fun W F' => HeapOf W hp lim M1 F') (fun _ _ _ h1 h2 h3 => h1.same h2 h3) (fun _ _ h1 => h1.flt) hq3
         generalize w3.alloc (.cells #[.int .i64 mk, .int .i64 mn, .string ms] 37) = W4 at HG0 ⊢
         generalize w3.heap.size = ba at HG0 ⊢)
      | (have HG0 := leaf2 (X := X) mk mn ms (R := fun W F' => HeapOf W hp lim M1 F') HFH.out (fun _ _ _ h1 h2 h3 => h1.same h2 h3) hq3
         change Exit.then _ _ Exit.normal _ (put3 w3 X.heap.size mk mn ms)
         generalize put3 w3 X.heap.size mk mn ms = W4 at HG0 ⊢
         obtain ⟨ba, hba⟩ : ∃ ba, X.heap.size = ba := ⟨_, rfl⟩
         rw [hba] at HG0 ⊢
         replace HG0 : Gone X W4 FH (fun W F' => HeapOf W hp lim M1 F') ∧ Box3 W4 ba mk mn ms ∧ X.heap.size ≤ ba ∧ ba < W4.heap.size := ⟨HG0.1, HG0.2.1, by omega, HG0.2.2.2⟩
         clear hba)
    clear hq3
    have HG : Hid (Gone X W4 FH (fun W F' => HeapOf W hp lim M1 F')) := HG0.1
    obtain ⟨-, bx, hba1, hba2⟩ := HG0
    have HKX : Hid (Kp FH X W4) := by obtain ⟨F', -, k, -⟩ := HG.out; exact k
    have hzW : X.heap.size ≤ W4.heap.size := HKX.out.size
    have hM4 : RefOf W4 mp lim A N FM := hX.hm.kept HKX.out (fun b hb q => (hX.fh b q).2.1 hb)
    have e1 := HKX.out.block sp hX.blk.lt (fun q => (hX.fh sp q).2.2 rfl)
    have e2 := HKX.out.block w.heap.size hzX0 (fun q => by have := h.flt _ (h.fh _ q).1; omega)
    have c2 := (World.cell?_of_block (a := ⟨sp, 2, none⟩) e1).trans hX.c2
    have u2 := (World.cell?_of_block (a := ⟨w.heap.size, 2, none⟩) e2).trans v2
    have u3 := (World.cell?_of_block (a := ⟨w.heap.size, 3, none⟩) e2).trans v3
    have HFM : Hid (∀ b, FM b → b < w.heap.size) := fun b hb => h.flt b (h.fm b hb).1
    have HFM4 : Hid (∀ b, FM b → b < W4.heap.size) := fun b hb => by have := HFM.out b hb; omega
    have HRM : Hid (∀ W, Below W4.heap.size W4 W → Calls Tryd.prog 45 #[.pointer (some ⟨mp, 0, none⟩), .int .i64 kd, .int .i64 n] W fun e w' => ∃ v, e = .returned v ∧ (v = .tuple #[.agg #[.int .i64 mk, .int .i64 mn, .string ms], .int .i64 mt] ∧ Hid (∃ F', RefOf w' mp lim M1 N F' ∧ Kp FM W w' ∧ ∀ b, F' b → FM b ∨ W.heap.size ≤ b))) := fun W hW => by
      have := rmake_any (hM4.next hW) kd n
      rw [HMM.out] at this
      exact this.mono fun e w' ⟨e1, e2⟩ => ⟨_, e1, rfl, e2⟩
    have SV : Hid (∀ W, Kp FM W4 W → W.cell? ⟨sp, 2, none⟩ = some (.pointer (some ⟨mp, 0, none⟩)) ∧ W.cell? ⟨w.heap.size, 2, none⟩ = some (.int .i64 kd) ∧ W.cell? ⟨w.heap.size, 3, none⟩ = some (.int .i64 n) ∧ Kp FM W4 W) := fun W hW => by
      have e1 := hW.block sp (by have := hX.blk.lt; omega) (fun q => (hX.fm sp q).2 rfl)
      have e2 := hW.block w.heap.size (by omega) (fun q => by have := HFM.out _ q; omega)
      exact ⟨(World.cell?_of_block (a := ⟨sp, 2, none⟩) e1).trans c2, (World.cell?_of_block (a := ⟨w.heap.size, 2, none⟩) e2).trans u2, (World.cell?_of_block (a := ⟨w.heap.size, 3, none⟩) e2).trans u3, hW⟩
    have hcd : Kp FM W4 W4.drew := Kp.of (Below.refl _ _).drew
    go_wp2_with fail
    clear c1 v2 v3 u2 u3 c2
    go_region_held3 (fun w' => w'.cell? ⟨sp, 2, none⟩ = some (.pointer (some ⟨mp, 0, none⟩)) ∧ w'.cell? ⟨w.heap.size, 2, none⟩ = some (.int .i64 kd) ∧ w'.cell? ⟨w.heap.size, 3, none⟩ = some (.int .i64 n) ∧ Kp FM W4 w') (first | exact SV.out _ (by assumption) | exact SV.out _ (Kp.alloc (by assumption) _) | exact SV.out _ (Kp.setCell (Kp.setCell (Kp.setCell (by assumption) (.inr (Nat.le_refl _)) _) (.inr (Nat.le_refl _)) _) (.inr (Nat.le_refl _)) _) | exact SV.out _ (Kp.setCell (Kp.setCell (Kp.setCell (Kp.alloc (by assumption) _) (.inr hz3) _) (.inr hz3) _) (.inr hz3) _))
      (first
      | (go_at_call 45; refine (HRM.out _ (by first | exact (Below.refl _ _).drew | exact ((Below.refl _ _).drew).alloc (Nat.le_refl _) _)).mono ?_; rintro e w3 ⟨v3', rfl, rfl, hq3⟩; replace hcd : Kp FM W4 w3 := (by obtain ⟨F', -, k, -⟩ := hq3.out; first | exact (Kp.of (F := FM) (Below.refl _ W4).drew).trans k (fun _ _ q => q) | exact (Kp.of (F := FM) (((Below.refl _ W4).drew).alloc (Nat.le_refl _) _)).trans k (fun _ _ q => q)); have hz3 : W4.heap.size ≤ w3.heap.size := hcd.size; first | (obtain ⟨⟨⟨y0, g0⟩, ⟨y1, g1⟩⟩, y2, g2⟩ := keep3 HFM4.out hq3) | skip))
    all_goals
      clear hcd SV HRM hz3
      try clear y0 y1 y2 g0 g1 g2
      first
        | (have HG0 := leaf1 (X := W4) mk mn ms (R := fun W F' => RefOf W mp lim M1 N F') (fun _ _ _ h1 h2 h3 => h1.same h2 h3) (fun _ _ h1 => h1.flt) hq3
           generalize w3.alloc (.cells #[.int .i64 mk, .int .i64 mn, .string ms] 37) = W5 at HG0 ⊢
           generalize w3.heap.size = bb at HG0 ⊢)
        | (have HG0 := leaf2 (X := W4) mk mn ms (R := fun W F' => RefOf W mp lim M1 N F') HFM4.out (fun _ _ _ h1 h2 h3 => h1.same h2 h3) hq3
           change Exit.then _ _ Exit.normal _ (put3 w3 W4.heap.size mk mn ms)
           generalize put3 w3 W4.heap.size mk mn ms = W5 at HG0 ⊢
           obtain ⟨bb, hbb⟩ : ∃ bb, W4.heap.size = bb := ⟨_, rfl⟩
           rw [hbb] at HG0 ⊢
           replace HG0 : Gone W4 W5 FM (fun W F' => RefOf W mp lim M1 N F') ∧ Box3 W5 bb mk mn ms ∧ W4.heap.size ≤ bb ∧ bb < W5.heap.size := ⟨HG0.1, HG0.2.1, by omega, HG0.2.2.2⟩
           clear hbb)
      clear hq3
      obtain ⟨hG2, bx2, hbb1, hbb2⟩ := HG0
      have HFIN : Hid (∃ A' F', SeatAt W5 sp l0 lim A' N F' ∧ Kp F w W5 ∧ ∀ b, F' b → F b ∨ w.heap.size ≤ b) := by
        obtain ⟨FH', q1, q2, q3⟩ := HG.out
        obtain ⟨FM', q4, q5, q6⟩ := hG2
        have hB0s := B0.size
        obtain ⟨F', r1, r2, r3⟩ := h.goes ((Kp.of (F := FH) B0).trans q2 (fun _ _ q => q)) q1 (fun b hb => by rcases q3 b hb with r | r; exact .inl r; exact .inr (by omega)) (Below.refl _ _) q5 q4 q6 (Below.refl _ _) HRG.out
        exact ⟨M1, F', r1, r2, r3⟩
      have bx1 : Box3 W5 ba mk mn ms := by
        obtain ⟨FM', -, q5, -⟩ := hG2
        exact bx.same (q5.block ba hba2 (fun q => by have := HFM.out _ q; omega))
      clear hG2
      obtain ⟨⟨⟨a0, -⟩, ⟨a1, -⟩⟩, a2, -⟩ := bx1
      obtain ⟨⟨⟨d0, -⟩, ⟨d1, -⟩⟩, d2, -⟩ := bx2
      have ev := eqlVV mk mn ms
      go_wp2
      go_ret
      exact ⟨by first | rfl | simp, HFIN⟩


set_option maxRecDepth 100000 in
set_option maxHeartbeats 4000000 in
theorem does2 {w : World} {sp : Nat} {l0 : Int} {lim : Nat} {A : Hp} {N : Nat} {F : Nat → Prop} (h : SeatAt w sp l0 lim A N F) (on kd n : Int) (rk rn : Int) (rs : ByteArray) (xk xn : Int) (xs : ByteArray) (hrs : rs.size ≤ 9223372036854775807) (hNb : N ≤ 2000000000000) :
    Calls Tryd.prog 29 #[.pointer (some ⟨sp, 0, none⟩), .agg #[.int .i64 2, .int .i64 on, .int .i64 kd, .int .i64 n, .int .i64 rk, .int .i64 rn, .string rs, .int .i64 xk, .int .i64 xn, .string xs]] w fun e w' => e = .returned (.bool true) ∧ Hid (∃ A' F', SeatAt w' sp l0 lim A' N F' ∧ Kp F w w' ∧ ∀ b, F' b → F b ∨ w.heap.size ≤ b) := by
  obtain ⟨hp, mp, FH, FM, h⟩ := h
  have B0 : Below w.heap.size w (w.alloc (.cells #[.int .i64 2, .int .i64 on, .int .i64 kd, .int .i64 n, .int .i64 rk, .int .i64 rn, .string rs, .int .i64 xk, .int .i64 xn, .string xs] 39)) := (Below.refl _ w).alloc (Nat.le_refl _) _
  have sn := sc_new w ⟨2, on, kd, n, (rk, rn, rs), (xk, xn, xs)⟩ 39
  unfold sc at sn
  simp only at sn
  have hzX0 : w.heap.size < (w.alloc (.cells #[.int .i64 2, .int .i64 on, .int .i64 kd, .int .i64 n, .int .i64 rk, .int .i64 rn, .string rs, .int .i64 xk, .int .i64 xn, .string xs] 39)).heap.size := by simp
  go_enter Tryd.func29, Tryd.ntmps29
  go_upto_region 1 with fail
  generalize w.alloc (.cells #[.int .i64 2, .int .i64 on, .int .i64 kd, .int .i64 n, .int .i64 rk, .int .i64 rn, .string rs, .int .i64 xk, .int .i64 xn, .string xs] 39) = X at B0 sn hzX0 ⊢
  have hX := h.next B0
  have v0 : X.cell? ⟨w.heap.size, 0, none⟩ = some (.int .i64 2) := sn 0 _ rfl
  have v4 : X.cell? ⟨w.heap.size, 4, none⟩ = some (.int .i64 rk) := sn 4 _ rfl
  have v5 : X.cell? ⟨w.heap.size, 5, none⟩ = some (.int .i64 rn) := sn 5 _ rfl
  have v6 : X.cell? ⟨w.heap.size, 6, none⟩ = some (.string rs) := sn 6 _ rfl
  have v3 : X.cell? ⟨w.heap.size, 3, none⟩ = some (.int .i64 n) := sn 3 _ rfl
  have c1 := hX.c1
  have HFH : Hid (∀ b, FH b → b < X.heap.size) := hX.hh.flt
  obtain ⟨M, hM⟩ : ∃ M, getH A (rk, rn, rs) n = M := ⟨_, rfl⟩
  obtain ⟨⟨mk, mn, ms⟩, mt⟩ := M
  have HMK : Hid (∀ W, Below X.heap.size X W → Calls Tryd.prog 12 #[.pointer (some ⟨hp, 0, none⟩), .agg #[.int .i64 rk, .int .i64 rn, .string rs], .int .i64 n] W fun e w' => ∃ v, e = .returned v ∧ (v = .tuple #[.agg #[.int .i64 mk, .int .i64 mn, .string ms], .int .i64 mt] ∧ Hid (∃ F', HeapOf w' hp lim A F' ∧ Kp FH W w' ∧ ∀ b, F' b → FH b ∨ W.heap.size ≤ b))) := fun W hW => by
    have := get_any (hX.hh.next hW) (rk, rn, rs) n hrs
    rw [hM] at this
    exact this.mono fun e w' ⟨e1, e2⟩ => ⟨_, e1, rfl, FH, (hX.hh.next hW).next e2, Kp.of e2, fun b hb => .inl hb⟩
  have SV : Hid (∀ W, Kp FH X W → W.cell? ⟨sp, 1, none⟩ = some (.pointer (some ⟨hp, 0, none⟩)) ∧ W.cell? ⟨w.heap.size, 4, none⟩ = some (.int .i64 rk) ∧ W.cell? ⟨w.heap.size, 5, none⟩ = some (.int .i64 rn) ∧ W.cell? ⟨w.heap.size, 6, none⟩ = some (.string rs) ∧ W.cell? ⟨w.heap.size, 3, none⟩ = some (.int .i64 n) ∧ Kp FH X W) := fun W hW => by
    have e1 := hW.block sp hX.blk.lt (fun q => (hX.fh sp q).2.2 rfl)
    have e2 := hW.block w.heap.size hzX0 (fun q => by have := h.flt _ (h.fh _ q).1; omega)
    exact ⟨(World.cell?_of_block (a := ⟨sp, 1, none⟩) e1).trans c1, (World.cell?_of_block (a := ⟨w.heap.size, 4, none⟩) e2).trans v4, (World.cell?_of_block (a := ⟨w.heap.size, 5, none⟩) e2).trans v5, (World.cell?_of_block (a := ⟨w.heap.size, 6, none⟩) e2).trans v6, (World.cell?_of_block (a := ⟨w.heap.size, 3, none⟩) e2).trans v3, hW⟩
  have hcd : Kp FH X X.drew := Kp.of (Below.refl _ _).drew
  have HMM : Hid (getH A (rk, rn, rs) n = ((mk, mn, ms), mt)) := hM
  have HRG : Hid (rngA A) := h.rg
  clear sn hM
  go_wp2_with fail
  clear v0
  go_region_held3 (fun w' => w'.cell? ⟨sp, 1, none⟩ = some (.pointer (some ⟨hp, 0, none⟩)) ∧ w'.cell? ⟨w.heap.size, 4, none⟩ = some (.int .i64 rk) ∧ w'.cell? ⟨w.heap.size, 5, none⟩ = some (.int .i64 rn) ∧ w'.cell? ⟨w.heap.size, 6, none⟩ = some (.string rs) ∧ w'.cell? ⟨w.heap.size, 3, none⟩ = some (.int .i64 n) ∧ Kp FH X w') (first | exact SV.out _ (by assumption) | exact SV.out _ (Kp.alloc (by assumption) _) | exact SV.out _ (Kp.setCell (Kp.setCell (Kp.setCell (by assumption) (.inr (Nat.le_refl _)) _) (.inr (Nat.le_refl _)) _) (.inr (Nat.le_refl _)) _) | exact SV.out _ (Kp.setCell (Kp.setCell (Kp.setCell (Kp.alloc (by assumption) _) (.inr hz3) _) (.inr hz3) _) (.inr hz3) _))
    (first
    | (go_at_call 12; refine (HMK.out _ (by first | exact (Below.refl _ _).drew | exact ((Below.refl _ _).drew).alloc (Nat.le_refl _) _)).mono ?_; rintro e w3 ⟨v3', rfl, rfl, hq3⟩; replace hcd : Kp FH X w3 := (by obtain ⟨F', -, k, -⟩ := hq3.out; first | exact (Kp.of (F := FH) (Below.refl _ X).drew).trans k (fun _ _ q => q) | exact (Kp.of (F := FH) (((Below.refl _ X).drew).alloc (Nat.le_refl _) _)).trans k (fun _ _ q => q)); have hz3 : X.heap.size ≤ w3.heap.size := hcd.size; first | (obtain ⟨⟨⟨y0, g0⟩, ⟨y1, g1⟩⟩, y2, g2⟩ := keep3 HFH.out hq3) | skip))
  all_goals
    clear hcd SV HMK hz3
    try clear y0 y1 y2 g0 g1 g2
    first
      | (have HG0 := leaf1 (X := X) mk mn ms (R := fun W F' => HeapOf W hp lim A F') (fun _ _ _ h1 h2 h3 => h1.same h2 h3) (fun _ _ h1 => h1.flt) hq3
         generalize w3.alloc (.cells #[.int .i64 mk, .int .i64 mn, .string ms] 37) = W4 at HG0 ⊢
         generalize w3.heap.size = ba at HG0 ⊢)
      | (have HG0 := leaf2 (X := X) mk mn ms (R := fun W F' => HeapOf W hp lim A F') HFH.out (fun _ _ _ h1 h2 h3 => h1.same h2 h3) hq3
         change Exit.then _ _ Exit.normal _ (put3 w3 X.heap.size mk mn ms)
         generalize put3 w3 X.heap.size mk mn ms = W4 at HG0 ⊢
         obtain ⟨ba, hba⟩ : ∃ ba, X.heap.size = ba := ⟨_, rfl⟩
         rw [hba] at HG0 ⊢
         replace HG0 : Gone X W4 FH (fun W F' => HeapOf W hp lim A F') ∧ Box3 W4 ba mk mn ms ∧ X.heap.size ≤ ba ∧ ba < W4.heap.size := ⟨HG0.1, HG0.2.1, by omega, HG0.2.2.2⟩
         clear hba)
    clear hq3
    have HG : Hid (Gone X W4 FH (fun W F' => HeapOf W hp lim A F')) := HG0.1
    obtain ⟨-, bx, hba1, hba2⟩ := HG0
    have HKX : Hid (Kp FH X W4) := by obtain ⟨F', -, k, -⟩ := HG.out; exact k
    have hzW : X.heap.size ≤ W4.heap.size := HKX.out.size
    have hM4 : RefOf W4 mp lim A N FM := hX.hm.kept HKX.out (fun b hb q => (hX.fh b q).2.1 hb)
    have e1 := HKX.out.block sp hX.blk.lt (fun q => (hX.fh sp q).2.2 rfl)
    have e2 := HKX.out.block w.heap.size hzX0 (fun q => by have := h.flt _ (h.fh _ q).1; omega)
    have c2 := (World.cell?_of_block (a := ⟨sp, 2, none⟩) e1).trans hX.c2
    have u4 := (World.cell?_of_block (a := ⟨w.heap.size, 4, none⟩) e2).trans v4
    have u5 := (World.cell?_of_block (a := ⟨w.heap.size, 5, none⟩) e2).trans v5
    have u6 := (World.cell?_of_block (a := ⟨w.heap.size, 6, none⟩) e2).trans v6
    have u3 := (World.cell?_of_block (a := ⟨w.heap.size, 3, none⟩) e2).trans v3
    have HFM : Hid (∀ b, FM b → b < w.heap.size) := fun b hb => h.flt b (h.fm b hb).1
    have HFM4 : Hid (∀ b, FM b → b < W4.heap.size) := fun b hb => by have := HFM.out b hb; omega
    have HRM : Hid (∀ W, Below W4.heap.size W4 W → Calls Tryd.prog 50 #[.pointer (some ⟨mp, 0, none⟩), .agg #[.int .i64 rk, .int .i64 rn, .string rs], .int .i64 n] W fun e w' => ∃ v, e = .returned v ∧ (v = .tuple #[.agg #[.int .i64 mk, .int .i64 mn, .string ms], .int .i64 mt] ∧ Hid (∃ F', RefOf w' mp lim A N F' ∧ Kp FM W w' ∧ ∀ b, F' b → FM b ∨ W.heap.size ≤ b))) := fun W hW => by
      have := rgetA_any (hM4.next hW) hNb (rk, rn, rs) n
      rw [HMM.out] at this
      exact this.mono fun e w' ⟨e1, e2⟩ => ⟨_, e1, rfl, FM, (hM4.next hW).next e2, Kp.of e2, fun b hb => .inl hb⟩
    have SV : Hid (∀ W, Kp FM W4 W → W.cell? ⟨sp, 2, none⟩ = some (.pointer (some ⟨mp, 0, none⟩)) ∧ W.cell? ⟨w.heap.size, 4, none⟩ = some (.int .i64 rk) ∧ W.cell? ⟨w.heap.size, 5, none⟩ = some (.int .i64 rn) ∧ W.cell? ⟨w.heap.size, 6, none⟩ = some (.string rs) ∧ W.cell? ⟨w.heap.size, 3, none⟩ = some (.int .i64 n) ∧ Kp FM W4 W) := fun W hW => by
      have e1 := hW.block sp (by have := hX.blk.lt; omega) (fun q => (hX.fm sp q).2 rfl)
      have e2 := hW.block w.heap.size (by omega) (fun q => by have := HFM.out _ q; omega)
      exact ⟨(World.cell?_of_block (a := ⟨sp, 2, none⟩) e1).trans c2, (World.cell?_of_block (a := ⟨w.heap.size, 4, none⟩) e2).trans u4, (World.cell?_of_block (a := ⟨w.heap.size, 5, none⟩) e2).trans u5, (World.cell?_of_block (a := ⟨w.heap.size, 6, none⟩) e2).trans u6, (World.cell?_of_block (a := ⟨w.heap.size, 3, none⟩) e2).trans u3, hW⟩
    have hcd : Kp FM W4 W4.drew := Kp.of (Below.refl _ _).drew
    go_wp2_with fail
    clear c1 v3 v4 v5 v6 u3 u4 u5 u6 c2
    go_region_held3 (fun w' => w'.cell? ⟨sp, 2, none⟩ = some (.pointer (some ⟨mp, 0, none⟩)) ∧ w'.cell? ⟨w.heap.size, 4, none⟩ = some (.int .i64 rk) ∧ w'.cell? ⟨w.heap.size, 5, none⟩ = some (.int .i64 rn) ∧ w'.cell? ⟨w.heap.size, 6, none⟩ = some (.string rs) ∧ w'.cell? ⟨w.heap.size, 3, none⟩ = some (.int .i64 n) ∧ Kp FM W4 w') (first | exact SV.out _ (by assumption) | exact SV.out _ (Kp.alloc (by assumption) _) | exact SV.out _ (Kp.setCell (Kp.setCell (Kp.setCell (by assumption) (.inr (Nat.le_refl _)) _) (.inr (Nat.le_refl _)) _) (.inr (Nat.le_refl _)) _) | exact SV.out _ (Kp.setCell (Kp.setCell (Kp.setCell (Kp.alloc (by assumption) _) (.inr hz3) _) (.inr hz3) _) (.inr hz3) _))
      (first
      | (go_at_call 50; refine (HRM.out _ (by first | exact (Below.refl _ _).drew | exact ((Below.refl _ _).drew).alloc (Nat.le_refl _) _)).mono ?_; rintro e w3 ⟨v3', rfl, rfl, hq3⟩; replace hcd : Kp FM W4 w3 := (by obtain ⟨F', -, k, -⟩ := hq3.out; first | exact (Kp.of (F := FM) (Below.refl _ W4).drew).trans k (fun _ _ q => q) | exact (Kp.of (F := FM) (((Below.refl _ W4).drew).alloc (Nat.le_refl _) _)).trans k (fun _ _ q => q)); have hz3 : W4.heap.size ≤ w3.heap.size := hcd.size; first | (obtain ⟨⟨⟨y0, g0⟩, ⟨y1, g1⟩⟩, y2, g2⟩ := keep3 HFM4.out hq3) | skip))
    all_goals
      clear hcd SV HRM hz3
      try clear y0 y1 y2 g0 g1 g2
      first
        | (have HG0 := leaf1 (X := W4) mk mn ms (R := fun W F' => RefOf W mp lim A N F') (fun _ _ _ h1 h2 h3 => h1.same h2 h3) (fun _ _ h1 => h1.flt) hq3
           generalize w3.alloc (.cells #[.int .i64 mk, .int .i64 mn, .string ms] 37) = W5 at HG0 ⊢
           generalize w3.heap.size = bb at HG0 ⊢)
        | (have HG0 := leaf2 (X := W4) mk mn ms (R := fun W F' => RefOf W mp lim A N F') HFM4.out (fun _ _ _ h1 h2 h3 => h1.same h2 h3) hq3
           change Exit.then _ _ Exit.normal _ (put3 w3 W4.heap.size mk mn ms)
           generalize put3 w3 W4.heap.size mk mn ms = W5 at HG0 ⊢
           obtain ⟨bb, hbb⟩ : ∃ bb, W4.heap.size = bb := ⟨_, rfl⟩
           rw [hbb] at HG0 ⊢
           replace HG0 : Gone W4 W5 FM (fun W F' => RefOf W mp lim A N F') ∧ Box3 W5 bb mk mn ms ∧ W4.heap.size ≤ bb ∧ bb < W5.heap.size := ⟨HG0.1, HG0.2.1, by omega, HG0.2.2.2⟩
           clear hbb)
      clear hq3
      obtain ⟨hG2, bx2, hbb1, hbb2⟩ := HG0
      have HFIN : Hid (∃ A' F', SeatAt W5 sp l0 lim A' N F' ∧ Kp F w W5 ∧ ∀ b, F' b → F b ∨ w.heap.size ≤ b) := by
        obtain ⟨FH', q1, q2, q3⟩ := HG.out
        obtain ⟨FM', q4, q5, q6⟩ := hG2
        have hB0s := B0.size
        obtain ⟨F', r1, r2, r3⟩ := h.goes ((Kp.of (F := FH) B0).trans q2 (fun _ _ q => q)) q1 (fun b hb => by rcases q3 b hb with r | r; exact .inl r; exact .inr (by omega)) (Below.refl _ _) q5 q4 q6 (Below.refl _ _) HRG.out
        exact ⟨A, F', r1, r2, r3⟩
      have bx1 : Box3 W5 ba mk mn ms := by
        obtain ⟨FM', -, q5, -⟩ := hG2
        exact bx.same (q5.block ba hba2 (fun q => by have := HFM.out _ q; omega))
      clear hG2
      obtain ⟨⟨⟨a0, -⟩, ⟨a1, -⟩⟩, a2, -⟩ := bx1
      obtain ⟨⟨⟨d0, -⟩, ⟨d1, -⟩⟩, d2, -⟩ := bx2
      have ev := eqlVV mk mn ms
      go_wp2
      go_ret
      exact ⟨by first | rfl | simp, HFIN⟩

set_option maxRecDepth 100000 in
set_option maxHeartbeats 4000000 in
theorem does3 {w : World} {sp : Nat} {l0 : Int} {lim : Nat} {A : Hp} {N : Nat} {F : Nat → Prop} (h : SeatAt w sp l0 lim A N F) (on kd n : Int) (rk rn : Int) (rs : ByteArray) (xk xn : Int) (xs : ByteArray) (hrs : rs.size ≤ 9223372036854775807) (hxs : xs.size ≤ 9223372036854775807) (hxr : inR xn) (hNb : N ≤ 2000000000000) :
    Calls Tryd.prog 29 #[.pointer (some ⟨sp, 0, none⟩), .agg #[.int .i64 3, .int .i64 on, .int .i64 kd, .int .i64 n, .int .i64 rk, .int .i64 rn, .string rs, .int .i64 xk, .int .i64 xn, .string xs]] w fun e w' => e = .returned (.bool true) ∧ Hid (∃ A' F', SeatAt w' sp l0 lim A' (N + 1) F' ∧ Kp F w w' ∧ ∀ b, F' b → F b ∨ w.heap.size ≤ b) := by
  obtain ⟨hp, mp, FH, FM, h⟩ := h
  have B0 : Below w.heap.size w (w.alloc (.cells #[.int .i64 3, .int .i64 on, .int .i64 kd, .int .i64 n, .int .i64 rk, .int .i64 rn, .string rs, .int .i64 xk, .int .i64 xn, .string xs] 39)) := (Below.refl _ w).alloc (Nat.le_refl _) _
  have sn := sc_new w ⟨3, on, kd, n, (rk, rn, rs), (xk, xn, xs)⟩ 39
  unfold sc at sn
  simp only at sn
  have hzX0 : w.heap.size < (w.alloc (.cells #[.int .i64 3, .int .i64 on, .int .i64 kd, .int .i64 n, .int .i64 rk, .int .i64 rn, .string rs, .int .i64 xk, .int .i64 xn, .string xs] 39)).heap.size := by simp
  go_enter Tryd.func29, Tryd.ntmps29
  go_upto_region 1 with fail
  generalize w.alloc (.cells #[.int .i64 3, .int .i64 on, .int .i64 kd, .int .i64 n, .int .i64 rk, .int .i64 rn, .string rs, .int .i64 xk, .int .i64 xn, .string xs] 39) = X at B0 sn hzX0 ⊢
  have hX := h.next B0
  have v0 : X.cell? ⟨w.heap.size, 0, none⟩ = some (.int .i64 3) := sn 0 _ rfl
  have v4 : X.cell? ⟨w.heap.size, 4, none⟩ = some (.int .i64 rk) := sn 4 _ rfl
  have v5 : X.cell? ⟨w.heap.size, 5, none⟩ = some (.int .i64 rn) := sn 5 _ rfl
  have v6 : X.cell? ⟨w.heap.size, 6, none⟩ = some (.string rs) := sn 6 _ rfl
  have v3 : X.cell? ⟨w.heap.size, 3, none⟩ = some (.int .i64 n) := sn 3 _ rfl
  have v7 : X.cell? ⟨w.heap.size, 7, none⟩ = some (.int .i64 xk) := sn 7 _ rfl
  have v8 : X.cell? ⟨w.heap.size, 8, none⟩ = some (.int .i64 xn) := sn 8 _ rfl
  have v9 : X.cell? ⟨w.heap.size, 9, none⟩ = some (.string xs) := sn 9 _ rfl
  have c1 := hX.c1
  have HFH : Hid (∀ b, FH b → b < X.heap.size) := hX.hh.flt
  obtain ⟨M, hM⟩ : ∃ M, putH A (rk, rn, rs) n (xk, xn, xs) = M := ⟨_, rfl⟩
  obtain ⟨M1, mt⟩ := M
  have HMK : Hid (∀ W, Below X.heap.size X W → Calls Tryd.prog 31 #[.pointer (some ⟨hp, 0, none⟩), .agg #[.int .i64 rk, .int .i64 rn, .string rs], .int .i64 n, .agg #[.int .i64 xk, .int .i64 xn, .string xs]] W fun e w' => ∃ v, e = .returned v ∧ (v = .int .i64 mt ∧ Hid (HeapOf w' hp lim M1 FH ∧ Kp FH W w'))) := fun W hW => by
    have := put_any (hX.hh.next hW) (rk, rn, rs) n (xk, xn, xs) hrs hxs
    rw [hM] at this
    exact this.mono fun e w' ⟨e1, e2⟩ => ⟨_, e1, rfl, e2⟩
  have SV : Hid (∀ W, Kp FH X W → W.cell? ⟨sp, 1, none⟩ = some (.pointer (some ⟨hp, 0, none⟩)) ∧ W.cell? ⟨w.heap.size, 4, none⟩ = some (.int .i64 rk) ∧ W.cell? ⟨w.heap.size, 5, none⟩ = some (.int .i64 rn) ∧ W.cell? ⟨w.heap.size, 6, none⟩ = some (.string rs) ∧ W.cell? ⟨w.heap.size, 3, none⟩ = some (.int .i64 n) ∧ W.cell? ⟨w.heap.size, 7, none⟩ = some (.int .i64 xk) ∧ W.cell? ⟨w.heap.size, 8, none⟩ = some (.int .i64 xn) ∧ W.cell? ⟨w.heap.size, 9, none⟩ = some (.string xs) ∧ Kp FH X W) := fun W hW => by
    have e1 := hW.block sp hX.blk.lt (fun q => (hX.fh sp q).2.2 rfl)
    have e2 := hW.block w.heap.size hzX0 (fun q => by have := h.flt _ (h.fh _ q).1; omega)
    exact ⟨(World.cell?_of_block (a := ⟨sp, 1, none⟩) e1).trans c1, (World.cell?_of_block (a := ⟨w.heap.size, 4, none⟩) e2).trans v4, (World.cell?_of_block (a := ⟨w.heap.size, 5, none⟩) e2).trans v5, (World.cell?_of_block (a := ⟨w.heap.size, 6, none⟩) e2).trans v6, (World.cell?_of_block (a := ⟨w.heap.size, 3, none⟩) e2).trans v3, (World.cell?_of_block (a := ⟨w.heap.size, 7, none⟩) e2).trans v7, (World.cell?_of_block (a := ⟨w.heap.size, 8, none⟩) e2).trans v8, (World.cell?_of_block (a := ⟨w.heap.size, 9, none⟩) e2).trans v9, hW⟩
  have hcd : Kp FH X X.drew := Kp.of (Below.refl _ _).drew
  have HMM : Hid (putH A (rk, rn, rs) n (xk, xn, xs) = (M1, mt)) := hM
  have HRG : Hid (rngA M1) := by
    have := rng_take (lim := lim) (s := ⟨3, on, kd, n, (rk, rn, rs), (xk, xn, xs)⟩) h.rg hxr
    unfold takeS at this
    rw [if_neg (show ¬ (3 : Int) = 1 by decide), if_pos rfl, hM] at this
    exact this
  clear sn hM
  go_wp2_with fail
  clear v0
  go_region_held3 (fun w' => w'.cell? ⟨sp, 1, none⟩ = some (.pointer (some ⟨hp, 0, none⟩)) ∧ w'.cell? ⟨w.heap.size, 4, none⟩ = some (.int .i64 rk) ∧ w'.cell? ⟨w.heap.size, 5, none⟩ = some (.int .i64 rn) ∧ w'.cell? ⟨w.heap.size, 6, none⟩ = some (.string rs) ∧ w'.cell? ⟨w.heap.size, 3, none⟩ = some (.int .i64 n) ∧ w'.cell? ⟨w.heap.size, 7, none⟩ = some (.int .i64 xk) ∧ w'.cell? ⟨w.heap.size, 8, none⟩ = some (.int .i64 xn) ∧ w'.cell? ⟨w.heap.size, 9, none⟩ = some (.string xs) ∧ Kp FH X w') (exact SV.out _ (by assumption))
    (first
    | (go_at_call 31; refine (HMK.out _ (Below.refl _ _).drew).mono ?_; rintro e w3 ⟨v3', rfl, rfl, hq3⟩; replace hcd : Kp FH X w3 := (Kp.of (F := FH) (Below.refl _ X).drew).trans hq3.out.2 (fun _ _ q => q)))
  have HKX : Hid (Kp FH X w3) := hcd
  have HG1 : Hid (HeapOf w3 hp lim M1 FH) := hq3.out.1
  clear hcd SV HMK hq3
  generalize w3 = W4 at HKX HG1 ⊢
  have hzW : X.heap.size ≤ W4.heap.size := HKX.out.size
  have hM4 : RefOf W4 mp lim A N FM := hX.hm.kept HKX.out (fun b hb q => (hX.fh b q).2.1 hb)
  have e1 := HKX.out.block sp hX.blk.lt (fun q => (hX.fh sp q).2.2 rfl)
  have e2 := HKX.out.block w.heap.size hzX0 (fun q => by have := h.flt _ (h.fh _ q).1; omega)
  have c2 := (World.cell?_of_block (a := ⟨sp, 2, none⟩) e1).trans hX.c2
  have u4 := (World.cell?_of_block (a := ⟨w.heap.size, 4, none⟩) e2).trans v4
  have u5 := (World.cell?_of_block (a := ⟨w.heap.size, 5, none⟩) e2).trans v5
  have u6 := (World.cell?_of_block (a := ⟨w.heap.size, 6, none⟩) e2).trans v6
  have u3 := (World.cell?_of_block (a := ⟨w.heap.size, 3, none⟩) e2).trans v3
  have u7 := (World.cell?_of_block (a := ⟨w.heap.size, 7, none⟩) e2).trans v7
  have u8 := (World.cell?_of_block (a := ⟨w.heap.size, 8, none⟩) e2).trans v8
  have u9 := (World.cell?_of_block (a := ⟨w.heap.size, 9, none⟩) e2).trans v9
  have HFM : Hid (∀ b, FM b → b < w.heap.size) := fun b hb => h.flt b (h.fm b hb).1
  have HRM : Hid (∀ W, Below W4.heap.size W4 W → Calls Tryd.prog 47 #[.pointer (some ⟨mp, 0, none⟩), .agg #[.int .i64 rk, .int .i64 rn, .string rs], .int .i64 n, .agg #[.int .i64 xk, .int .i64 xn, .string xs]] W fun e w' => ∃ v, e = .returned v ∧ (v = .int .i64 mt ∧ Hid (∃ F', RefOf w' mp lim M1 (N + 1) F' ∧ Kp FM W w' ∧ ∀ b, F' b → FM b ∨ W.heap.size ≤ b))) := fun W hW => by
    have := rput_any (hM4.next hW) hNb (rk, rn, rs) n (xk, xn, xs) hxs
    rw [HMM.out] at this
    exact this.mono fun e w' ⟨e1, e2⟩ => ⟨_, e1, rfl, e2⟩
  have SV : Hid (∀ W, Kp FM W4 W → W.cell? ⟨sp, 2, none⟩ = some (.pointer (some ⟨mp, 0, none⟩)) ∧ W.cell? ⟨w.heap.size, 4, none⟩ = some (.int .i64 rk) ∧ W.cell? ⟨w.heap.size, 5, none⟩ = some (.int .i64 rn) ∧ W.cell? ⟨w.heap.size, 6, none⟩ = some (.string rs) ∧ W.cell? ⟨w.heap.size, 3, none⟩ = some (.int .i64 n) ∧ W.cell? ⟨w.heap.size, 7, none⟩ = some (.int .i64 xk) ∧ W.cell? ⟨w.heap.size, 8, none⟩ = some (.int .i64 xn) ∧ W.cell? ⟨w.heap.size, 9, none⟩ = some (.string xs) ∧ Kp FM W4 W) := fun W hW => by
    have e1 := hW.block sp (by have := hX.blk.lt; omega) (fun q => (hX.fm sp q).2 rfl)
    have e2 := hW.block w.heap.size (by omega) (fun q => by have := HFM.out _ q; omega)
    exact ⟨(World.cell?_of_block (a := ⟨sp, 2, none⟩) e1).trans c2, (World.cell?_of_block (a := ⟨w.heap.size, 4, none⟩) e2).trans u4, (World.cell?_of_block (a := ⟨w.heap.size, 5, none⟩) e2).trans u5, (World.cell?_of_block (a := ⟨w.heap.size, 6, none⟩) e2).trans u6, (World.cell?_of_block (a := ⟨w.heap.size, 3, none⟩) e2).trans u3, (World.cell?_of_block (a := ⟨w.heap.size, 7, none⟩) e2).trans u7, (World.cell?_of_block (a := ⟨w.heap.size, 8, none⟩) e2).trans u8, (World.cell?_of_block (a := ⟨w.heap.size, 9, none⟩) e2).trans u9, hW⟩
  have hcd : Kp FM W4 W4.drew := Kp.of (Below.refl _ _).drew
  go_wp2_with fail
  clear c1 v3 v4 v5 v6 v7 v8 v9 u3 u4 u5 u6 u7 u8 u9 c2
  go_region_held3 (fun w' => w'.cell? ⟨sp, 2, none⟩ = some (.pointer (some ⟨mp, 0, none⟩)) ∧ w'.cell? ⟨w.heap.size, 4, none⟩ = some (.int .i64 rk) ∧ w'.cell? ⟨w.heap.size, 5, none⟩ = some (.int .i64 rn) ∧ w'.cell? ⟨w.heap.size, 6, none⟩ = some (.string rs) ∧ w'.cell? ⟨w.heap.size, 3, none⟩ = some (.int .i64 n) ∧ w'.cell? ⟨w.heap.size, 7, none⟩ = some (.int .i64 xk) ∧ w'.cell? ⟨w.heap.size, 8, none⟩ = some (.int .i64 xn) ∧ w'.cell? ⟨w.heap.size, 9, none⟩ = some (.string xs) ∧ Kp FM W4 w') (exact SV.out _ (by assumption))
    (first
    | (go_at_call 47; refine (HRM.out _ (Below.refl _ _).drew).mono ?_; rintro e w3 ⟨v3', rfl, rfl, hq3⟩; replace hcd : Kp FM W4 w3 := (by obtain ⟨F', -, k, -⟩ := hq3.out; exact (Kp.of (F := FM) (Below.refl _ W4).drew).trans k (fun _ _ q => q))))
  clear hcd SV HRM
  have HFIN : Hid (∃ A' F', SeatAt w3 sp l0 lim A' (N + 1) F' ∧ Kp F w w3 ∧ ∀ b, F' b → F b ∨ w.heap.size ≤ b) := by
    obtain ⟨FM', q4, q5, q6⟩ := hq3.out
    obtain ⟨F', r1, r2, r3⟩ := h.goes ((Kp.of (F := FH) B0).trans HKX.out (fun _ _ q => q)) HG1.out (fun b hb => .inl hb) ((Below.refl _ _).drew) q5 q4 q6 (Below.refl _ _) HRG.out
    exact ⟨M1, F', r1, r2, r3⟩
  clear hq3
  go_wp2
  go_ret
  exact ⟨by first | rfl | simp, HFIN⟩


set_option maxRecDepth 100000 in
set_option maxHeartbeats 4000000 in
theorem does4 {w : World} {sp : Nat} {l0 : Int} {lim : Nat} {A : Hp} {N : Nat} {F : Nat → Prop} (h : SeatAt w sp l0 lim A N F) (on kd n : Int) (rk rn : Int) (rs : ByteArray) (xk xn : Int) (xs : ByteArray) (hrs : rs.size ≤ 9223372036854775807) :
    Calls Tryd.prog 29 #[.pointer (some ⟨sp, 0, none⟩), .agg #[.int .i64 4, .int .i64 on, .int .i64 kd, .int .i64 n, .int .i64 rk, .int .i64 rn, .string rs, .int .i64 xk, .int .i64 xn, .string xs]] w fun e w' => e = .returned (.bool true) ∧ Hid (∃ A' F', SeatAt w' sp l0 lim A' N F' ∧ Kp F w w' ∧ ∀ b, F' b → F b ∨ w.heap.size ≤ b) := by
  obtain ⟨hp, mp, FH, FM, h⟩ := h
  have B0 : Below w.heap.size w (w.alloc (.cells #[.int .i64 4, .int .i64 on, .int .i64 kd, .int .i64 n, .int .i64 rk, .int .i64 rn, .string rs, .int .i64 xk, .int .i64 xn, .string xs] 39)) := (Below.refl _ w).alloc (Nat.le_refl _) _
  have sn := sc_new w ⟨4, on, kd, n, (rk, rn, rs), (xk, xn, xs)⟩ 39
  unfold sc at sn
  simp only at sn
  have hzX0 : w.heap.size < (w.alloc (.cells #[.int .i64 4, .int .i64 on, .int .i64 kd, .int .i64 n, .int .i64 rk, .int .i64 rn, .string rs, .int .i64 xk, .int .i64 xn, .string xs] 39)).heap.size := by simp
  go_enter Tryd.func29, Tryd.ntmps29
  go_upto_region 1 with fail
  generalize w.alloc (.cells #[.int .i64 4, .int .i64 on, .int .i64 kd, .int .i64 n, .int .i64 rk, .int .i64 rn, .string rs, .int .i64 xk, .int .i64 xn, .string xs] 39) = X at B0 sn hzX0 ⊢
  have hX := h.next B0
  have v0 : X.cell? ⟨w.heap.size, 0, none⟩ = some (.int .i64 4) := sn 0 _ rfl
  have v4 : X.cell? ⟨w.heap.size, 4, none⟩ = some (.int .i64 rk) := sn 4 _ rfl
  have v5 : X.cell? ⟨w.heap.size, 5, none⟩ = some (.int .i64 rn) := sn 5 _ rfl
  have v6 : X.cell? ⟨w.heap.size, 6, none⟩ = some (.string rs) := sn 6 _ rfl
  have c1 := hX.c1
  have c2 := hX.c2
  obtain ⟨na, hna⟩ : ∃ na, ((findH A (rk, rn, rs)).1.2.length : Int) = na := ⟨_, rfl⟩
  obtain ⟨nb, hnb⟩ : ∃ nb, (findH A (rk, rn, rs)).2 = nb := ⟨_, rfl⟩
  have H1 : Hid (∀ W, Below X.heap.size X W → Calls Tryd.prog 13 #[.pointer (some ⟨hp, 0, none⟩), .agg #[.int .i64 rk, .int .i64 rn, .string rs]] W fun e w' => ∃ v, e = .returned v ∧ (v = .tuple #[.int .i64 na, .int .i64 nb] ∧ Below X.heap.size X w')) := fun W hW => by
    have := lenH_any (hX.hh.next hW) (rk, rn, rs) hrs
    rw [hna, hnb] at this
    exact this.mono fun e w' ⟨e1, e2⟩ => ⟨_, e1, rfl, hW.trans (e2.mono hW.size)⟩
  have H2 : Hid (∀ W, Below X.heap.size X W → Calls Tryd.prog 51 #[.pointer (some ⟨mp, 0, none⟩), .agg #[.int .i64 rk, .int .i64 rn, .string rs]] W fun e w' => ∃ v, e = .returned v ∧ (v = .tuple #[.int .i64 na, .int .i64 nb] ∧ Below X.heap.size X w')) := fun W hW => by
    have := rlen_any (hX.hm.next hW) rk rn rs
    rw [hna, hnb] at this
    exact this.mono fun e w' ⟨e1, e2⟩ => ⟨_, e1, rfl, hW.trans (e2.mono hW.size)⟩
  have SV : Hid (∀ W, Below X.heap.size X W → W.cell? ⟨sp, 1, none⟩ = some (.pointer (some ⟨hp, 0, none⟩)) ∧ W.cell? ⟨w.heap.size, 4, none⟩ = some (.int .i64 rk) ∧ W.cell? ⟨w.heap.size, 5, none⟩ = some (.int .i64 rn) ∧ W.cell? ⟨w.heap.size, 6, none⟩ = some (.string rs) ∧ Below X.heap.size X W) := fun W hW => by
    have e1 := hW.block sp hX.blk.lt
    have e2 := hW.block w.heap.size hzX0
    exact ⟨(World.cell?_of_block (a := ⟨sp, 1, none⟩) e1).trans c1, (World.cell?_of_block (a := ⟨w.heap.size, 4, none⟩) e2).trans v4, (World.cell?_of_block (a := ⟨w.heap.size, 5, none⟩) e2).trans v5, (World.cell?_of_block (a := ⟨w.heap.size, 6, none⟩) e2).trans v6, hW⟩
  have hcd : Below X.heap.size X X.drew := (Below.refl _ _).drew
  have HN1 : Hid (((findH A (rk, rn, rs)).1.2.length : Int) = na) := hna
  have HN2 : Hid ((findH A (rk, rn, rs)).2 = nb) := hnb
  clear sn hna hnb
  go_wp2_with fail
  clear v0
  go_region_held3 (fun w' => w'.cell? ⟨sp, 1, none⟩ = some (.pointer (some ⟨hp, 0, none⟩)) ∧ w'.cell? ⟨w.heap.size, 4, none⟩ = some (.int .i64 rk) ∧ w'.cell? ⟨w.heap.size, 5, none⟩ = some (.int .i64 rn) ∧ w'.cell? ⟨w.heap.size, 6, none⟩ = some (.string rs) ∧ Below X.heap.size X w') (exact SV.out _ (by assumption))
    (first
    | (go_at_call 13; refine (H1.out _ hcd).mono ?_; rintro e w3 ⟨v3', rfl, rfl, hcd'⟩; replace hcd := hcd'; clear hcd'))
  clear SV H1
  generalize w3 = W4 at hcd ⊢
  have HB : Hid (Below X.heap.size X W4) := hcd
  have u1 := hcd.block sp hX.blk.lt
  have u2 := hcd.block w.heap.size hzX0
  replace c2 := (World.cell?_of_block (a := ⟨sp, 2, none⟩) u1).trans c2
  replace v4 := (World.cell?_of_block (a := ⟨w.heap.size, 4, none⟩) u2).trans v4
  replace v5 := (World.cell?_of_block (a := ⟨w.heap.size, 5, none⟩) u2).trans v5
  replace v6 := (World.cell?_of_block (a := ⟨w.heap.size, 6, none⟩) u2).trans v6
  have hz4 := hcd.size
  have SV : Hid (∀ W, Below W4.heap.size W4 W → W.cell? ⟨sp, 2, none⟩ = some (.pointer (some ⟨mp, 0, none⟩)) ∧ W.cell? ⟨w.heap.size, 4, none⟩ = some (.int .i64 rk) ∧ W.cell? ⟨w.heap.size, 5, none⟩ = some (.int .i64 rn) ∧ W.cell? ⟨w.heap.size, 6, none⟩ = some (.string rs) ∧ Below W4.heap.size W4 W) := fun W hW => by
    have e1 := hW.block sp (by have := hX.blk.lt; omega)
    have e2 := hW.block w.heap.size (by omega)
    exact ⟨(World.cell?_of_block (a := ⟨sp, 2, none⟩) e1).trans c2, (World.cell?_of_block (a := ⟨w.heap.size, 4, none⟩) e2).trans v4, (World.cell?_of_block (a := ⟨w.heap.size, 5, none⟩) e2).trans v5, (World.cell?_of_block (a := ⟨w.heap.size, 6, none⟩) e2).trans v6, hW⟩
  replace H2 : Hid (∀ W, Below W4.heap.size W4 W → Calls Tryd.prog 51 #[.pointer (some ⟨mp, 0, none⟩), .agg #[.int .i64 rk, .int .i64 rn, .string rs]] W fun e w' => ∃ v, e = .returned v ∧ (v = .tuple #[.int .i64 na, .int .i64 nb] ∧ Below W4.heap.size W4 w')) := fun W hW => by
    have := rlen_any ((hX.hm.next HB.out).next hW) rk rn rs
    rw [HN1.out, HN2.out] at this
    exact this.mono fun e w' ⟨e1, e2⟩ => ⟨_, e1, rfl, hW.trans (e2.mono hW.size)⟩
  clear hcd u1 u2
  have hcd : Below W4.heap.size W4 W4.drew := (Below.refl _ _).drew
  go_wp2_with fail
  clear c1 c2 v4 v5 v6
  go_region_held3 (fun w' => w'.cell? ⟨sp, 2, none⟩ = some (.pointer (some ⟨mp, 0, none⟩)) ∧ w'.cell? ⟨w.heap.size, 4, none⟩ = some (.int .i64 rk) ∧ w'.cell? ⟨w.heap.size, 5, none⟩ = some (.int .i64 rn) ∧ w'.cell? ⟨w.heap.size, 6, none⟩ = some (.string rs) ∧ Below W4.heap.size W4 w') (exact SV.out _ (by assumption))
    (first
    | (go_at_call 51; refine (H2.out _ hcd).mono ?_; rintro e w3 ⟨v3', rfl, rfl, hcd'⟩; replace hcd := hcd'; clear hcd'))
  clear SV H2
  replace hcd := HB.out.trans (hcd.mono hz4)
  have HFIN : Hid (∃ A' F', SeatAt w3 sp l0 lim A' N F' ∧ Kp F w w3 ∧ ∀ b, F' b → F b ∨ w.heap.size ≤ b) := by
    obtain ⟨F', r1, r2, r3⟩ := h.rests (B0.trans (hcd.mono B0.size))
    exact ⟨A, F', r1, r2, r3⟩
  clear hcd
  go_wp2
  go_ret
  exact ⟨by first | rfl | simp, HFIN⟩

set_option maxRecDepth 100000 in
set_option maxHeartbeats 4000000 in
theorem does5 {w : World} {sp : Nat} {l0 : Int} {lim : Nat} {A : Hp} {N : Nat} {F : Nat → Prop} (h : SeatAt w sp l0 lim A N F) (on kd n : Int) (rk rn : Int) (rs : ByteArray) (xk xn : Int) (xs : ByteArray) :
    Calls Tryd.prog 29 #[.pointer (some ⟨sp, 0, none⟩), .agg #[.int .i64 5, .int .i64 on, .int .i64 kd, .int .i64 n, .int .i64 rk, .int .i64 rn, .string rs, .int .i64 xk, .int .i64 xn, .string xs]] w fun e w' => e = .returned (.bool true) ∧ Hid (∃ A' F', SeatAt w' sp l0 lim A' N F' ∧ Kp F w w' ∧ ∀ b, F' b → F b ∨ w.heap.size ≤ b) := by
  obtain ⟨hp, mp, FH, FM, h⟩ := h
  have B0 : Below w.heap.size w (w.alloc (.cells #[.int .i64 5, .int .i64 on, .int .i64 kd, .int .i64 n, .int .i64 rk, .int .i64 rn, .string rs, .int .i64 xk, .int .i64 xn, .string xs] 39)) := (Below.refl _ w).alloc (Nat.le_refl _) _
  have sn := sc_new w ⟨5, on, kd, n, (rk, rn, rs), (xk, xn, xs)⟩ 39
  unfold sc at sn
  simp only at sn
  have hzX0 : w.heap.size < (w.alloc (.cells #[.int .i64 5, .int .i64 on, .int .i64 kd, .int .i64 n, .int .i64 rk, .int .i64 rn, .string rs, .int .i64 xk, .int .i64 xn, .string xs] 39)).heap.size := by simp
  go_enter Tryd.func29, Tryd.ntmps29
  go_upto_region 1 with fail
  generalize w.alloc (.cells #[.int .i64 5, .int .i64 on, .int .i64 kd, .int .i64 n, .int .i64 rk, .int .i64 rn, .string rs, .int .i64 xk, .int .i64 xn, .string xs] 39) = X at B0 sn hzX0 ⊢
  have hX := h.next B0
  have v0 : X.cell? ⟨w.heap.size, 0, none⟩ = some (.int .i64 5) := sn 0 _ rfl
  have v4 : X.cell? ⟨w.heap.size, 4, none⟩ = some (.int .i64 rk) := sn 4 _ rfl
  have v5 : X.cell? ⟨w.heap.size, 5, none⟩ = some (.int .i64 rn) := sn 5 _ rfl
  have v6 : X.cell? ⟨w.heap.size, 6, none⟩ = some (.string rs) := sn 6 _ rfl
  have c1 := hX.c1
  have c2 := hX.c2
  have H1 : Hid (∀ W, Below X.heap.size X W → Calls Tryd.prog 19 #[.pointer (some ⟨hp, 0, none⟩)] W fun e w' => ∃ v, e = .returned v ∧ (v = .int .i64 ((usedS A : Nat) : Int) ∧ Below X.heap.size X w')) := fun W hW => by
    exact (used_any (hX.hh.next hW)).mono fun e w' ⟨e1, e2⟩ => ⟨_, e1, rfl, by rw [e2]; exact hW⟩
  have H2 : Hid (∀ W, Below X.heap.size X W → Calls Tryd.prog 25 #[.pointer (some ⟨mp, 0, none⟩)] W fun e w' => ∃ v, e = .returned v ∧ (v = .int .i64 ((usedS A : Nat) : Int) ∧ Below X.heap.size X w')) := fun W hW => by
    exact (rusedA_any (hX.hm.next hW)).mono fun e w' ⟨e1, e2⟩ => ⟨_, e1, rfl, by rw [e2]; exact hW⟩
  have SV : Hid (∀ W, Below X.heap.size X W → W.cell? ⟨sp, 1, none⟩ = some (.pointer (some ⟨hp, 0, none⟩)) ∧ W.cell? ⟨sp, 2, none⟩ = some (.pointer (some ⟨mp, 0, none⟩)) ∧ Below X.heap.size X W) := fun W hW => by
    have e1 := hW.block sp hX.blk.lt
    exact ⟨(World.cell?_of_block (a := ⟨sp, 1, none⟩) e1).trans c1, (World.cell?_of_block (a := ⟨sp, 2, none⟩) e1).trans c2, hW⟩
  have hcd : Below X.heap.size X X.drew := (Below.refl _ _).drew
  clear sn v4 v5 v6
  go_wp2_with fail
  clear v0 c1 c2
  go_region_held3 (fun w' => w'.cell? ⟨sp, 1, none⟩ = some (.pointer (some ⟨hp, 0, none⟩)) ∧ w'.cell? ⟨sp, 2, none⟩ = some (.pointer (some ⟨mp, 0, none⟩)) ∧ Below X.heap.size X w') (exact SV.out _ (by assumption))
    (first
    | (go_at_call 19; refine (H1.out _ hcd).mono ?_; rintro e w3 ⟨v3', rfl, rfl, hcd'⟩; replace hcd := hcd'; clear hcd')
    | (go_at_call 25; refine (H2.out _ hcd).mono ?_; rintro e w3 ⟨v3', rfl, rfl, hcd'⟩; replace hcd := hcd'; clear hcd'))
  clear SV H1 H2
  go_wp2
  go_ret
  refine ⟨by first | rfl | simp, ?_⟩
  obtain ⟨F', r1, r2, r3⟩ := h.rests (B0.trans (hcd.mono B0.size))
  exact ⟨A, F', r1, r2, r3⟩

set_option maxRecDepth 100000 in
set_option maxHeartbeats 4000000 in
theorem does7 {w : World} {sp : Nat} {l0 : Int} {lim : Nat} {A : Hp} {N : Nat} {F : Nat → Prop} (h : SeatAt w sp l0 lim A N F) (on kd n : Int) (rk rn : Int) (rs : ByteArray) (xk xn : Int) (xs : ByteArray) (hNb : N ≤ 2000000000000) :
    Calls Tryd.prog 29 #[.pointer (some ⟨sp, 0, none⟩), .agg #[.int .i64 7, .int .i64 on, .int .i64 kd, .int .i64 n, .int .i64 rk, .int .i64 rn, .string rs, .int .i64 xk, .int .i64 xn, .string xs]] w fun e w' => e = .returned (.bool true) ∧ Hid (∃ A' F', SeatAt w' sp l0 lim A' N F' ∧ Kp F w w' ∧ ∀ b, F' b → F b ∨ w.heap.size ≤ b) := by
  obtain ⟨hp, mp, FH, FM, h⟩ := h
  have B0 : Below w.heap.size w (w.alloc (.cells #[.int .i64 7, .int .i64 on, .int .i64 kd, .int .i64 n, .int .i64 rk, .int .i64 rn, .string rs, .int .i64 xk, .int .i64 xn, .string xs] 39)) := (Below.refl _ w).alloc (Nat.le_refl _) _
  have sn := sc_new w ⟨7, on, kd, n, (rk, rn, rs), (xk, xn, xs)⟩ 39
  unfold sc at sn
  simp only at sn
  have hzX0 : w.heap.size < (w.alloc (.cells #[.int .i64 7, .int .i64 on, .int .i64 kd, .int .i64 n, .int .i64 rk, .int .i64 rn, .string rs, .int .i64 xk, .int .i64 xn, .string xs] 39)).heap.size := by simp
  go_enter Tryd.func29, Tryd.ntmps29
  go_upto_region 1 with fail
  generalize w.alloc (.cells #[.int .i64 7, .int .i64 on, .int .i64 kd, .int .i64 n, .int .i64 rk, .int .i64 rn, .string rs, .int .i64 xk, .int .i64 xn, .string xs] 39) = X at B0 sn hzX0 ⊢
  have hX := h.next B0
  have v0 : X.cell? ⟨w.heap.size, 0, none⟩ = some (.int .i64 7) := sn 0 _ rfl
  have v4 : X.cell? ⟨w.heap.size, 4, none⟩ = some (.int .i64 rk) := sn 4 _ rfl
  have v5 : X.cell? ⟨w.heap.size, 5, none⟩ = some (.int .i64 rn) := sn 5 _ rfl
  have v6 : X.cell? ⟨w.heap.size, 6, none⟩ = some (.string rs) := sn 6 _ rfl
  have c1 := hX.c1
  have c2 := hX.c2
  have H1 : Hid (∀ W, Below X.heap.size X W → Calls Tryd.prog 16 #[.pointer (some ⟨hp, 0, none⟩)] W fun e w' => ∃ v, e = .returned v ∧ (v = .string ⟨(saveS A).toArray⟩ ∧ Below X.heap.size X w')) := fun W hW => by
    exact (save_any (hX.hh.next hW)).mono fun e w' ⟨e1, e2⟩ => ⟨_, e1, rfl, hW.trans (e2.mono hW.size)⟩
  have H2 : Hid (∀ W, Below X.heap.size X W → Calls Tryd.prog 48 #[.pointer (some ⟨mp, 0, none⟩)] W fun e w' => ∃ v, e = .returned v ∧ (v = .string ⟨(saveS A).toArray⟩ ∧ Below X.heap.size X w')) := fun W hW => by
    exact (rsave_any (hX.hm.next hW) hNb h.txt).mono fun e w' ⟨e1, e2⟩ => ⟨_, e1, rfl, hW.trans (e2.mono hW.size)⟩
  have SV : Hid (∀ W, Below X.heap.size X W → W.cell? ⟨sp, 1, none⟩ = some (.pointer (some ⟨hp, 0, none⟩)) ∧ W.cell? ⟨sp, 2, none⟩ = some (.pointer (some ⟨mp, 0, none⟩)) ∧ Below X.heap.size X W) := fun W hW => by
    have e1 := hW.block sp hX.blk.lt
    exact ⟨(World.cell?_of_block (a := ⟨sp, 1, none⟩) e1).trans c1, (World.cell?_of_block (a := ⟨sp, 2, none⟩) e1).trans c2, hW⟩
  have hcd : Below X.heap.size X X.drew := (Below.refl _ _).drew
  clear sn v4 v5 v6
  go_wp2_with fail
  clear v0 c1 c2
  go_region_held3 (fun w' => w'.cell? ⟨sp, 1, none⟩ = some (.pointer (some ⟨hp, 0, none⟩)) ∧ w'.cell? ⟨sp, 2, none⟩ = some (.pointer (some ⟨mp, 0, none⟩)) ∧ Below X.heap.size X w') (exact SV.out _ (by assumption))
    (first
    | (go_at_call 16; refine (H1.out _ hcd).mono ?_; rintro e w3 ⟨v3', rfl, rfl, hcd'⟩; replace hcd := hcd'; clear hcd')
    | (go_at_call 48; refine (H2.out _ hcd).mono ?_; rintro e w3 ⟨v3', rfl, rfl, hcd'⟩; replace hcd := hcd'; clear hcd'))
  clear SV H1 H2
  go_wp2
  go_ret
  refine ⟨by first | rfl | simp, ?_⟩
  obtain ⟨F', r1, r2, r3⟩ := h.rests (B0.trans (hcd.mono B0.size))
  exact ⟨A, F', r1, r2, r3⟩

theorem HeapOf.lensP {w : World} {p lim : Nat} {A : Hp} {F : Nat → Prop} (h : HeapOf w p lim A F) : A.length ≤ 100000 ∧ ∀ l ∈ lsA A, l.length ≤ 100000 := by
  obtain ⟨As, rq, rn, rg, ro, av, rfl, h⟩ := h
  refine ⟨by rw [abs_len]; exact h.len.1, fun l hl => ?_⟩
  unfold lsA at hl
  rcases List.mem_cons.1 hl with rfl | hl
  · exact Nat.zero_le _
  · obtain ⟨a, ha, rfl⟩ := List.mem_map.1 hl
    unfold absA at ha
    obtain ⟨x, hx, rfl⟩ := List.mem_map.1 ha
    exact h.len.2 x hx

set_option maxRecDepth 100000 in
set_option maxHeartbeats 4000000 in
theorem does6 {w : World} {sp : Nat} {l0 : Int} {lim : Nat} {A : Hp} {N : Nat} {F : Nat → Prop} (h : SeatAt w sp l0 lim A N F) (on kd n : Int) (rk rn : Int) (rs : ByteArray) (xk xn : Int) (xs : ByteArray) (hNb : N ≤ 2000000000000) :
    Calls Tryd.prog 29 #[.pointer (some ⟨sp, 0, none⟩), .agg #[.int .i64 6, .int .i64 on, .int .i64 kd, .int .i64 n, .int .i64 rk, .int .i64 rn, .string rs, .int .i64 xk, .int .i64 xn, .string xs]] w fun e w' => e = .returned (.bool true) ∧ Hid (∃ A' F', SeatAt w' sp l0 lim A' N F' ∧ Kp F w w' ∧ ∀ b, F' b → F b ∨ w.heap.size ≤ b) := by
  obtain ⟨hp, mp, FH, FM, h⟩ := h
  have B0 : Below w.heap.size w (w.alloc (.cells #[.int .i64 6, .int .i64 on, .int .i64 kd, .int .i64 n, .int .i64 rk, .int .i64 rn, .string rs, .int .i64 xk, .int .i64 xn, .string xs] 39)) := (Below.refl _ w).alloc (Nat.le_refl _) _
  have sn := sc_new w ⟨6, on, kd, n, (rk, rn, rs), (xk, xn, xs)⟩ 39
  unfold sc at sn
  simp only at sn
  have hzX0 : w.heap.size < (w.alloc (.cells #[.int .i64 6, .int .i64 on, .int .i64 kd, .int .i64 n, .int .i64 rk, .int .i64 rn, .string rs, .int .i64 xk, .int .i64 xn, .string xs] 39)).heap.size := by simp
  go_enter Tryd.func29, Tryd.ntmps29
  go_upto_region 1 with fail
  generalize w.alloc (.cells #[.int .i64 6, .int .i64 on, .int .i64 kd, .int .i64 n, .int .i64 rk, .int .i64 rn, .string rs, .int .i64 xk, .int .i64 xn, .string xs] 39) = X at B0 sn hzX0 ⊢
  have hX := h.next B0
  have v0 : X.cell? ⟨w.heap.size, 0, none⟩ = some (.int .i64 6) := sn 0 _ rfl
  have v4 : X.cell? ⟨w.heap.size, 4, none⟩ = some (.int .i64 rk) := sn 4 _ rfl
  have v5 : X.cell? ⟨w.heap.size, 5, none⟩ = some (.int .i64 rn) := sn 5 _ rfl
  have v6 : X.cell? ⟨w.heap.size, 6, none⟩ = some (.string rs) := sn 6 _ rfl
  have c1 := hX.c1
  have c2 := hX.c2
  have hln := hX.hh.lensP
  have H1 : Hid (∀ W, Below X.heap.size X W → Calls Tryd.prog 21 #[.pointer (some ⟨hp, 0, none⟩)] W fun e w' => ∃ v, e = .returned v ∧ ∃ g, v = .slice (some ⟨g, 0, none⟩) (A.length + 1) (A.length + 1) ∧ Hid (ListsAt w' g (lsA A)) ∧ Below X.heap.size X w') := fun W hW => by
    refine (arrays_any (hX.hh.next hW)).mono fun e w' ⟨e1, e2, e3⟩ => ⟨_, e1, _, rfl, ?_, hW.trans (e3.mono hW.size)⟩
    obtain ⟨vs, ha⟩ := e2.out
    rw [← lsA_len] at ha
    exact ha.lists
  have H2 : Hid (∀ W, Below X.heap.size X W → Calls Tryd.prog 26 #[.pointer (some ⟨mp, 0, none⟩)] W fun e w' => ∃ v, e = .returned v ∧ ∃ g c, v = .slice (some ⟨g, 0, none⟩) (A.length + 1) c ∧ Hid (ListsAt w' g (lsA A)) ∧ Below W.heap.size W w') := fun W hW => by
    exact (rarrays_any (hX.hm.next hW) hNb).mono fun e w' ⟨g, c, e1, e2, e3⟩ => ⟨_, e1, g, c, rfl, e2, e3⟩
  have H3 : Hid (∀ W (g1 g2 c1 c2 : Nat), Below X.heap.size X W → Hid (ListsAt W g1 (lsA A)) → Hid (ListsAt W g2 (lsA A)) → Calls Tryd.prog 22 #[.slice (some ⟨g1, 0, none⟩) (A.length + 1) c1, .slice (some ⟨g2, 0, none⟩) (A.length + 1) c2] W fun e w' => ∃ v, e = .returned v ∧ (v = .bool true ∧ Below X.heap.size X w')) := fun W g1 g2 c1 c2 hW q1 q2 => by
    have := same_any (c1 := c1) (c2 := c2) q1.out q2.out (by rw [lsA_len]; omega) hln.2
    rw [lsA_len] at this
    exact this.mono fun e w' ⟨e1, e2⟩ => ⟨_, e1, rfl, hW.trans (e2.mono hW.size)⟩
  have SV : Hid (∀ W, Below X.heap.size X W → W.cell? ⟨sp, 1, none⟩ = some (.pointer (some ⟨hp, 0, none⟩)) ∧ W.cell? ⟨sp, 2, none⟩ = some (.pointer (some ⟨mp, 0, none⟩)) ∧ Below X.heap.size X W) := fun W hW => by
    have e1 := hW.block sp hX.blk.lt
    exact ⟨(World.cell?_of_block (a := ⟨sp, 1, none⟩) e1).trans c1, (World.cell?_of_block (a := ⟨sp, 2, none⟩) e1).trans c2, hW⟩
  have hcd : Below X.heap.size X X.drew := (Below.refl _ _).drew
  clear sn v4 v5 v6 hln
  go_wp2_with fail
  clear v0 c1 c2
  go_region_held3 (fun w' => w'.cell? ⟨sp, 1, none⟩ = some (.pointer (some ⟨hp, 0, none⟩)) ∧ w'.cell? ⟨sp, 2, none⟩ = some (.pointer (some ⟨mp, 0, none⟩)) ∧ Below X.heap.size X w') (exact SV.out _ (by assumption))
    (first
    | (go_at_call 21; refine (H1.out _ hcd).mono ?_; rintro e w3 ⟨v3', rfl, g1, rfl, hl1, hcd'⟩; replace hcd := hcd'; clear hcd')
    | (go_at_call 26; refine (H2.out _ hcd).mono ?_; rintro e w4 ⟨v4', rfl, g2, cc2, rfl, hl2, hcd'⟩; replace hl1 : Hid (ListsAt w4 g1 (lsA A)) := hl1.out.next hcd'; replace hcd := hcd.trans (hcd'.mono hcd.size); clear hcd')
    | (go_at_call 22; refine (H3.out _ _ _ _ _ hcd hl1 hl2).mono ?_; rintro e w5 ⟨v5', rfl, rfl, hcd'⟩; replace hcd := hcd'; clear hcd'))
  clear SV H1 H2 H3
  go_wp2
  go_ret
  refine ⟨by first | rfl | simp, ?_⟩
  obtain ⟨F', r1, r2, r3⟩ := h.rests (B0.trans (hcd.mono B0.size))
  exact ⟨A, F', r1, r2, r3⟩

/-- The seat goes on with another heap of the program, that says the same. -/
theorem SeatC.loads {w w4 : World} {sp : Nat} {l0 : Int} {lim : Nat} {A : Hp} {N hp mp g : Nat} {FH FM F FL : Nat → Prop} (h : SeatC w sp l0 lim A N hp mp FH FM F) (k : Below w.heap.size w w4) (h1 : HeapOf w4 g lim A FL) (fL : ∀ b, FL b → w.heap.size ≤ b) :
    ∃ F', SeatAt (w4.setCell ⟨sp, 1, none⟩ (.pointer (some ⟨g, 0, none⟩))) sp l0 lim A N F' ∧ Kp F w (w4.setCell ⟨sp, 1, none⟩ (.pointer (some ⟨g, 0, none⟩))) ∧ ∀ b, F' b → F b ∨ w.heap.size ≤ b := by
  have h4 := h.next k
  have kz : ∀ b, b ≠ sp → (w4.setCell ⟨sp, 1, none⟩ (.pointer (some ⟨g, 0, none⟩))).heap[b]? = w4.heap[b]? := fun b hb => Below.heap_setCell _ _ _ _ (fun e => hb e)
  have zs : (w4.setCell ⟨sp, 1, none⟩ (.pointer (some ⟨g, 0, none⟩))).heap.size = w4.heap.size := by simp
  have hL : ∀ b, FL b → b ≠ sp := fun b hb e => by have := fL b hb; have := h.blk.lt; omega
  refine ⟨fun b => F b ∨ FL b, ⟨g, mp, FL, FM, ?_⟩, (Kp.of k).setCell (.inl h.fs) _, fun b hb => ?_⟩
  · exact {
      blk := h4.blk.setCell _ _
      c0 := (World.cell?_setCell_other _ _ _ _ (by simp)).trans h4.c0
      c1 := World.cell?_setCell_same _ _ _ h4.c1
      c2 := (World.cell?_setCell_other _ _ _ _ (by simp)).trans h4.c2
      hh := h1.same (fun b hb => kz b (hL b hb)) (by omega)
      hm := h4.hm.same (fun b hb => kz b (h.fm b hb).2) (by omega)
      fh := fun b hb => ⟨.inr hb, fun q => by have := fL b hb; have := h.hm.flt b q; omega, hL b hb⟩
      fm := fun b hb => ⟨.inl (h.fm b hb).1, (h.fm b hb).2⟩
      fs := .inl h.fs
      flt := fun b hb => by
        rcases hb with q | q
        · have := h4.flt b q; omega
        · have := h1.flt b q; omega
      lm := h.lm
      rg := h.rg }
  · rcases hb with q | q
    · exact .inl q
    · exact .inr (fL b q)

set_option maxRecDepth 100000 in
set_option maxHeartbeats 4000000 in
theorem does8 {w : World} {sp : Nat} {l0 : Int} {lim : Nat} {A : Hp} {N : Nat} {F : Nat → Prop} (h : SeatAt w sp l0 lim A N F) (on kd n : Int) (rk rn : Int) (rs : ByteArray) (xk xn : Int) (xs : ByteArray) (hz : Zt w) :
    Calls Tryd.prog 29 #[.pointer (some ⟨sp, 0, none⟩), .agg #[.int .i64 8, .int .i64 on, .int .i64 kd, .int .i64 n, .int .i64 rk, .int .i64 rn, .string rs, .int .i64 xk, .int .i64 xn, .string xs]] w fun e w' => e = .returned (.bool true) ∧ Hid (∃ A' F', SeatAt w' sp l0 lim A' N F' ∧ Kp F w w' ∧ ∀ b, F' b → F b ∨ w.heap.size ≤ b) := by
  obtain ⟨hp, mp, FH, FM, h⟩ := h
  have B0 : Below w.heap.size w (w.alloc (.cells #[.int .i64 8, .int .i64 on, .int .i64 kd, .int .i64 n, .int .i64 rk, .int .i64 rn, .string rs, .int .i64 xk, .int .i64 xn, .string xs] 39)) := (Below.refl _ w).alloc (Nat.le_refl _) _
  have sn := sc_new w ⟨8, on, kd, n, (rk, rn, rs), (xk, xn, xs)⟩ 39
  unfold sc at sn
  simp only at sn
  have hzX0 : w.heap.size < (w.alloc (.cells #[.int .i64 8, .int .i64 on, .int .i64 kd, .int .i64 n, .int .i64 rk, .int .i64 rn, .string rs, .int .i64 xk, .int .i64 xn, .string xs] 39)).heap.size := by simp
  go_enter Tryd.func29, Tryd.ntmps29
  go_upto_region 1 with fail
  generalize w.alloc (.cells #[.int .i64 8, .int .i64 on, .int .i64 kd, .int .i64 n, .int .i64 rk, .int .i64 rn, .string rs, .int .i64 xk, .int .i64 xn, .string xs] 39) = X at B0 sn hzX0 ⊢
  have hX := h.next B0
  have v0 : X.cell? ⟨w.heap.size, 0, none⟩ = some (.int .i64 8) := sn 0 _ rfl
  have v4 : X.cell? ⟨w.heap.size, 4, none⟩ = some (.int .i64 rk) := sn 4 _ rfl
  have v5 : X.cell? ⟨w.heap.size, 5, none⟩ = some (.int .i64 rn) := sn 5 _ rfl
  have v6 : X.cell? ⟨w.heap.size, 6, none⟩ = some (.string rs) := sn 6 _ rfl
  have c1 := hX.c1
  have c0 := hX.c0
  have hzX : Zt X := hz.same (B0.block 0 hz.pos)
  obtain ⟨T, hT⟩ : ∃ T, (⟨(saveS A).toArray⟩ : ByteArray) = T := ⟨_, rfl⟩
  have H1 : Hid (∀ W, Below X.heap.size X W → Calls Tryd.prog 16 #[.pointer (some ⟨hp, 0, none⟩)] W fun e w' => ∃ v, e = .returned v ∧ (v = .string T ∧ Below X.heap.size X w')) := fun W hW => by
    have := save_any (hX.hh.next hW)
    rw [hT] at this
    exact this.mono fun e w' ⟨e1, e2⟩ => ⟨_, e1, rfl, hW.trans (e2.mono hW.size)⟩
  have H2 : Hid (∀ W, Below X.heap.size X W → Calls Tryd.prog 18 #[.int .i64 l0, .string T] W fun e w' => ∃ v, e = .returned v ∧ ∃ g, v = .tuple #[.pointer (some ⟨g, 0, none⟩), .int .i64 0] ∧ Hid (∃ F', HeapOf w' g lim A F' ∧ ∀ b, F' b → X.heap.size ≤ b) ∧ Below X.heap.size X w') := fun W hW => by
    have hu := h.hh.kinds.1
    have := load_any W l0 A (by rw [h.lm]; exact hu) (h.hh.okH h.rg) (hzX.same (hW.block 0 hzX.pos))
    rw [show str (saveS A) = T from hT, h.lm] at this
    refine this.mono fun e w' ⟨e1, e2⟩ => ?_
    obtain ⟨F', q1, q2, q3⟩ := e2.out
    exact ⟨_, e1, _, rfl, ⟨F', q1, fun b hb => Nat.le_trans hW.size (q2 b hb)⟩, hW.trans (q3.mono hW.size)⟩
  have SV : Hid (∀ W, Below X.heap.size X W → W.cell? ⟨sp, 0, none⟩ = some (.int .i64 l0) ∧ W.cell? ⟨sp, 1, none⟩ = some (.pointer (some ⟨hp, 0, none⟩)) ∧ Below X.heap.size X W) := fun W hW => by
    have e1 := hW.block sp hX.blk.lt
    exact ⟨(World.cell?_of_block (a := ⟨sp, 0, none⟩) e1).trans c0, (World.cell?_of_block (a := ⟨sp, 1, none⟩) e1).trans c1, hW⟩
  have hcd : Below X.heap.size X X.drew := (Below.refl _ _).drew
  clear sn v4 v5 v6 hT
  go_wp2_with fail
  clear v0 c0
  go_region_held3 (fun w' => w'.cell? ⟨sp, 0, none⟩ = some (.int .i64 l0) ∧ w'.cell? ⟨sp, 1, none⟩ = some (.pointer (some ⟨hp, 0, none⟩)) ∧ Below X.heap.size X w') (exact SV.out _ (by assumption))
    (first
    | (go_at_call 16; refine (H1.out _ hcd).mono ?_; rintro e w3 ⟨v3', rfl, rfl, hcd'⟩; replace hcd := hcd'; clear hcd')
    | (go_at_call 18; refine (H2.out _ hcd).mono ?_; rintro e w4 ⟨v4', rfl, g, rfl, hl, hcd'⟩; replace hcd := hcd'; clear hcd'))
  clear SV H1 H2
  have HFIN : Hid (∃ A' F', SeatAt (w4.setCell ⟨sp, 1, none⟩ (.pointer (some ⟨g, 0, none⟩))) sp l0 lim A' N F' ∧ Kp F w (w4.setCell ⟨sp, 1, none⟩ (.pointer (some ⟨g, 0, none⟩))) ∧ ∀ b, F' b → F b ∨ w.heap.size ≤ b) := by
    obtain ⟨FL, q1, q2⟩ := hl.out
    have hBs := B0.size
    obtain ⟨F', r1, r2, r3⟩ := h.loads (B0.trans (hcd.mono B0.size)) q1 (fun b hb => Nat.le_trans hBs (q2 b hb))
    exact ⟨A, F', r1, r2, r3⟩
  clear hl
  have b4 := hX.next hcd
  have k1 := b4.c1
  have k2 := b4.blk.unfrozen 1
  clear hcd b4 c1
  go_wp2
  go_ret
  exact ⟨by first | rfl | simp, HFIN⟩

set_option maxRecDepth 100000 in
set_option maxHeartbeats 4000000 in
theorem does0 {w : World} {sp : Nat} {l0 : Int} {lim : Nat} {A : Hp} {N : Nat} {F : Nat → Prop} (h : SeatAt w sp l0 lim A N F) (dop on kd n : Int) (rk rn : Int) (rs : ByteArray) (xk xn : Int) (xs : ByteArray) (d1 : ¬ dop = 1) (d2 : ¬ dop = 2) (d3 : ¬ dop = 3) (d4 : ¬ dop = 4) (d5 : ¬ dop = 5) (d6 : ¬ dop = 6) (d7 : ¬ dop = 7) (d8 : ¬ dop = 8) :
    Calls Tryd.prog 29 #[.pointer (some ⟨sp, 0, none⟩), .agg #[.int .i64 dop, .int .i64 on, .int .i64 kd, .int .i64 n, .int .i64 rk, .int .i64 rn, .string rs, .int .i64 xk, .int .i64 xn, .string xs]] w fun e w' => e = .returned (.bool true) ∧ Hid (∃ A' F', SeatAt w' sp l0 lim A' N F' ∧ Kp F w w' ∧ ∀ b, F' b → F b ∨ w.heap.size ≤ b) := by
  obtain ⟨hp, mp, FH, FM, h⟩ := h
  have B0 : Below w.heap.size w (w.alloc (.cells #[.int .i64 dop, .int .i64 on, .int .i64 kd, .int .i64 n, .int .i64 rk, .int .i64 rn, .string rs, .int .i64 xk, .int .i64 xn, .string xs] 39)) := (Below.refl _ w).alloc (Nat.le_refl _) _
  have sn := sc_new w ⟨dop, on, kd, n, (rk, rn, rs), (xk, xn, xs)⟩ 39
  unfold sc at sn
  simp only at sn
  have hzX0 : w.heap.size < (w.alloc (.cells #[.int .i64 dop, .int .i64 on, .int .i64 kd, .int .i64 n, .int .i64 rk, .int .i64 rn, .string rs, .int .i64 xk, .int .i64 xn, .string xs] 39)).heap.size := by simp
  go_enter Tryd.func29, Tryd.ntmps29
  go_upto_region 1 with fail
  generalize w.alloc (.cells #[.int .i64 dop, .int .i64 on, .int .i64 kd, .int .i64 n, .int .i64 rk, .int .i64 rn, .string rs, .int .i64 xk, .int .i64 xn, .string xs] 39) = X at B0 sn hzX0 ⊢
  have hX := h.next B0
  have v0 : X.cell? ⟨w.heap.size, 0, none⟩ = some (.int .i64 dop) := sn 0 _ rfl
  have d1' : (dop == 1) = false := by simpa using d1
  have d2' : (dop == 2) = false := by simpa using d2
  have d3' : (dop == 3) = false := by simpa using d3
  have d4' : (dop == 4) = false := by simpa using d4
  have d5' : (dop == 5) = false := by simpa using d5
  have d6' : (dop == 6) = false := by simpa using d6
  have d7' : (dop == 7) = false := by simpa using d7
  have d8' : (dop == 8) = false := by simpa using d8
  clear sn d1 d2 d3 d4 d5 d6 d7 d8
  go_wp2
  go_ret
  refine ⟨by first | rfl | simp, ?_⟩
  obtain ⟨F', r1, r2, r3⟩ := h.rests B0
  exact ⟨A, F', r1, r2, r3⟩

theorem SeatAt.more {w : World} {sp : Nat} {l0 : Int} {lim : Nat} {A : Hp} {N M : Nat} {F : Nat → Prop} (h : SeatAt w sp l0 lim A N F) (k : N ≤ M) : SeatAt w sp l0 lim A M F := by
  obtain ⟨hp, mp, FH, FM, h⟩ := h
  exact ⟨hp, mp, FH, FM, { h with hm := h.hm.more k }⟩
theorem does_any {w : World} {sp : Nat} {l0 : Int} {lim : Nat} {A : Hp} {N : Nat} {F : Nat → Prop} (h : SeatAt w sp l0 lim A N F) (hz : Zt w) (hF : ¬ F 0) (dop on kd n : Int) (rk rn : Int) (rs : ByteArray) (xk xn : Int) (xs : ByteArray) (hrs : rs.size ≤ 9223372036854775807) (hxs : xs.size ≤ 9223372036854775807) (hxr : inR xn) (hNb : N ≤ 2000000000000) :
    Calls Tryd.prog 29 #[.pointer (some ⟨sp, 0, none⟩), .agg #[.int .i64 dop, .int .i64 on, .int .i64 kd, .int .i64 n, .int .i64 rk, .int .i64 rn, .string rs, .int .i64 xk, .int .i64 xn, .string xs]] w fun e w' => e = .returned (.bool true) ∧ Hid (∃ A' F', SeatAt w' sp l0 lim A' (N + 1) F' ∧ Kp F w w' ∧ ∀ b, F' b → F b ∨ w.heap.size ≤ b) := by
  have up : ∀ {P : Prop} {w' : World}, P ∧ Hid (∃ A' F', SeatAt w' sp l0 lim A' N F' ∧ Kp F w w' ∧ ∀ b, F' b → F b ∨ w.heap.size ≤ b) → P ∧ Hid (∃ A' F', SeatAt w' sp l0 lim A' (N + 1) F' ∧ Kp F w w' ∧ ∀ b, F' b → F b ∨ w.heap.size ≤ b) := fun {P w'} ⟨e1, e2⟩ => by
    obtain ⟨A', F', q1, q2, q3⟩ := e2.out
    exact ⟨e1, A', F', q1.more (by omega), q2, q3⟩
  by_cases d1 : dop = 1
  · subst d1; exact (does1 h hz hF on kd n rk rn rs xk xn xs hxr).mono fun _ _ q => up q
  by_cases d2 : dop = 2
  · subst d2; exact (does2 h on kd n rk rn rs xk xn xs hrs hNb).mono fun _ _ q => up q
  by_cases d3 : dop = 3
  · subst d3; exact does3 h on kd n rk rn rs xk xn xs hrs hxs hxr hNb
  by_cases d4 : dop = 4
  · subst d4; exact (does4 h on kd n rk rn rs xk xn xs hrs).mono fun _ _ q => up q
  by_cases d5 : dop = 5
  · subst d5; exact (does5 h on kd n rk rn rs xk xn xs).mono fun _ _ q => up q
  by_cases d6 : dop = 6
  · subst d6; exact (does6 h on kd n rk rn rs xk xn xs hNb).mono fun _ _ q => up q
  by_cases d7 : dop = 7
  · subst d7; exact (does7 h on kd n rk rn rs xk xn xs hNb).mono fun _ _ q => up q
  by_cases d8 : dop = 8
  · subst d8; exact (does8 h on kd n rk rn rs xk xn xs hz).mono fun _ _ q => up q
  exact (does0 h dop on kd n rk rn rs xk xn xs d1 d2 d3 d4 d5 d6 d7 d8).mono fun _ _ q => up q

/-- A seat is laid around two heaps that say the same. -/
theorem seat_new {w w1 w2 : World} {hp mp lim N : Nat} {l0 : Int} {A : Hp} {FH FM : Nat → Prop} (h1 : HeapOf w1 hp lim A FH) (f1 : ∀ b, FH b → w.heap.size ≤ b) (z : w.heap.size ≤ w1.heap.size) (k : Below w1.heap.size w1 w2) (h2 : RefOf w2 mp lim A N FM) (f2 : ∀ b, FM b → w1.heap.size ≤ b) (hl : limS l0 = lim) (hr : rngA A) :
    ∃ F, SeatAt (w2.alloc (.cells #[.int .i64 l0, .pointer (some ⟨hp, 0, none⟩), .pointer (some ⟨mp, 0, none⟩)] 74)) w2.heap.size l0 lim A N F ∧ ∀ b, F b → w.heap.size ≤ b := by
  have nb : Below w2.heap.size w2 (w2.alloc (.cells #[.int .i64 l0, .pointer (some ⟨hp, 0, none⟩), .pointer (some ⟨mp, 0, none⟩)] 74)) := (Below.refl _ w2).alloc (Nat.le_refl _) _
  have hn := World.alloc_heap_new w2 (.cells #[.int .i64 l0, .pointer (some ⟨hp, 0, none⟩), .pointer (some ⟨mp, 0, none⟩)] 74)
  have zk := k.size
  have zs : (w2.alloc (.cells #[.int .i64 l0, .pointer (some ⟨hp, 0, none⟩), .pointer (some ⟨mp, 0, none⟩)] 74)).heap.size = w2.heap.size + 1 := by simp
  have g1 := h1.flt
  have g2 := h2.flt
  refine ⟨fun b => FH b ∨ FM b ∨ b = w2.heap.size, ⟨hp, mp, FH, FM, ?_⟩, fun b hb => ?_⟩
  · exact {
      blk := Blk.new w2 _ _ (by simp)
      c0 := by simp only [World.cell?, hn]; rfl
      c1 := by simp only [World.cell?, hn]; rfl
      c2 := by simp only [World.cell?, hn]; rfl
      hh := (h1.next k).next nb
      hm := h2.next nb
      fh := fun b hb => ⟨.inl hb, fun q => by have := g1 b hb; have := f2 b q; omega, by have := g1 b hb; omega⟩
      fm := fun b hb => ⟨.inr (.inl hb), by have := g2 b hb; omega⟩
      fs := .inr (.inr rfl)
      flt := fun b hb => by
        rcases hb with q | q | q
        · have := g1 b q; omega
        · have := g2 b q; omega
        · omega
      lm := hl
      rg := hr }
  · rcases hb with q | q | q
    · exact f1 b q
    · have := f2 b q; omega
    · omega

set_option maxRecDepth 100000 in
set_option maxHeartbeats 2000000 in
theorem sit_any (n : Int) (w : World) : Calls Tryd.prog 27 #[.int .i64 n] w fun e w' => ∃ sp, e = .returned (.pointer (some ⟨sp, 0, none⟩)) ∧ Hid (∃ F, SeatAt w' sp n (limS n) [] 0 F ∧ ∀ b, F b → w.heap.size ≤ b) ∧ Below w.heap.size w w' := by
  go_enter Tryd.func27, Tryd.ntmps27
  go_wp2_with fail
  refine (new_any n w).mono ?_
  rintro e w1 ⟨rfl, h1, b1⟩
  go_wp2_with fail
  refine (rnew_any n w1).mono ?_
  rintro e w2 ⟨rfl, h2, b2⟩
  have HF : Hid (∃ F, SeatAt (w2.alloc (.cells #[.int .i64 n, .pointer (some ⟨w.heap.size, 0, none⟩), .pointer (some ⟨w1.heap.size, 0, none⟩)] 74)) w2.heap.size n (limS n) [] 0 F ∧ ∀ b, F b → w.heap.size ≤ b) := seat_new h1 (fun b hb => by omega) b1.size b2 h2.out (fun b hb => by omega) rfl (fun a ha => by cases ha)
  have HB : Hid (Below w.heap.size w w2) := b1.trans (b2.mono b1.size)
  clear h1 h2 b1 b2
  go_wp2
  go_ret
  exact ⟨_, rfl, HF, HB.out.alloc HB.out.size _⟩

/-- Two seats that share nothing, in a table of two, seen from the seat k. -/
def Duo (w : World) (B tb N k : Nat) : Prop := ∃ (sp so : Nat) (l l' : Int) (m m' : Nat) (A A' : Hp) (F F' : Nat → Prop),
  (Blk w tb 71 2 ∧ w.cell? ⟨tb, k, none⟩ = some (.pointer (some ⟨sp, 0, none⟩)) ∧ w.cell? ⟨tb, 1 - k, none⟩ = some (.pointer (some ⟨so, 0, none⟩))) ∧
  (SeatAt w sp l m A N F ∧ SeatAt w so l' m' A' N F') ∧ (∀ b, F b → ¬ F' b) ∧ (∀ b, F b → B ≤ b ∧ b ≠ tb) ∧ (∀ b, F' b → B ≤ b ∧ b ≠ tb)
theorem Duo.turn {w : World} {B tb N k : Nat} (h : Duo w B tb N k) (hk : k ≤ 1) : Duo w B tb N (1 - k) := by
  obtain ⟨sp, so, l, l', m, m', A, A', F, F', ⟨h1, h2, h3⟩, ⟨h4, h5⟩, h6, h7, h8⟩ := h
  exact ⟨so, sp, l', l, m', m, A', A, F', F, ⟨h1, h3, by rw [show 1 - (1 - k) = k by omega]; exact h2⟩, ⟨h5, h4⟩, fun b q r => h6 b r q, h8, h7⟩
theorem SeatAt.same {w w' : World} {sp : Nat} {l0 : Int} {lim : Nat} {A : Hp} {N : Nat} {F : Nat → Prop} (h : SeatAt w sp l0 lim A N F) (hk : ∀ b, F b → w'.heap[b]? = w.heap[b]?) (hs : w.heap.size ≤ w'.heap.size) : SeatAt w' sp l0 lim A N F := by
  obtain ⟨hp, mp, FH, FM, h⟩ := h
  exact ⟨hp, mp, FH, FM, h.same hk hs⟩
theorem SeatAt.flt {w : World} {sp : Nat} {l0 : Int} {lim : Nat} {A : Hp} {N : Nat} {F : Nat → Prop} (h : SeatAt w sp l0 lim A N F) : ∀ b, F b → b < w.heap.size := by
  obtain ⟨hp, mp, FH, FM, h⟩ := h
  exact h.flt
theorem SeatAt.next {w w' : World} {sp : Nat} {l0 : Int} {lim : Nat} {A : Hp} {N : Nat} {F : Nat → Prop} (h : SeatAt w sp l0 lim A N F) (k : Below w.heap.size w w') : SeatAt w' sp l0 lim A N F := h.same (fun b hb => k.block b (h.flt b hb)) k.size
theorem Duo.next {w w' : World} {B tb N k : Nat} (h : Duo w B tb N k) (hb : Below w.heap.size w w') : Duo w' B tb N k := by
  obtain ⟨sp, so, l, l', m, m', A, A', F, F', ⟨h1, h2, h3⟩, ⟨h4, h5⟩, h6, h7, h8⟩ := h
  have e := hb.block tb h1.lt
  exact ⟨sp, so, l, l', m, m', A, A', F, F', ⟨h1.next hb, (World.cell?_of_block (a := ⟨tb, k, none⟩) e).trans h2, (World.cell?_of_block (a := ⟨tb, 1 - k, none⟩) e).trans h3⟩, ⟨h4.next hb, h5.next hb⟩, h6, h7, h8⟩
/-- A step of the seat k leaves two seats. -/
theorem Duo.does {w : World} {B tb N k : Nat} (h : Duo w B tb N k) (hz : Zt w) (hB : 0 < B) (hBw : B ≤ w.heap.size) (hNb : N ≤ 2000000000000) :
    ∃ sp, w.cell? ⟨tb, k, none⟩ = some (.pointer (some ⟨sp, 0, none⟩)) ∧ ∀ (dop on kd n rk rn : Int) (rs : ByteArray) (xk xn : Int) (xs : ByteArray), rs.size ≤ 9223372036854775807 → xs.size ≤ 9223372036854775807 → inR xn → Calls Tryd.prog 29 #[.pointer (some ⟨sp, 0, none⟩), .agg #[.int .i64 dop, .int .i64 on, .int .i64 kd, .int .i64 n, .int .i64 rk, .int .i64 rn, .string rs, .int .i64 xk, .int .i64 xn, .string xs]] w fun e w' => e = .returned (.bool true) ∧ Hid (Duo w' B tb (N + 1) k) ∧ Below B w w' := by
  obtain ⟨sp, so, l, l', m, m', A, A', F, F', ⟨h1, h2, h3⟩, ⟨h4, h5⟩, h6, h7, h8⟩ := h
  refine ⟨sp, h2, fun dop on kd n rk rn rs xk xn xs hrs hxs hxr => ?_⟩
  refine (does_any h4 hz (fun q => by have := (h7 0 q).1; omega) dop on kd n rk rn rs xk xn xs hrs hxs hxr hNb).mono fun e w' ⟨e1, e2⟩ => ⟨e1, ?_, ?_⟩
  · obtain ⟨A2, F2, q1, q2, q3⟩ := e2.out
    have et := q2.block tb h1.lt (fun q => (h7 tb q).2 rfl)
    refine ⟨sp, so, l, l', m, m', A2, A', F2, F', ⟨h1.same et, (World.cell?_of_block (a := ⟨tb, k, none⟩) et).trans h2, (World.cell?_of_block (a := ⟨tb, 1 - k, none⟩) et).trans h3⟩, ⟨q1, (h5.more (by omega)).same (fun b hb => q2.block b (h5.flt b hb) (fun q => h6 b q hb)) q2.size⟩, fun b hb q => ?_, fun b hb => ?_, h8⟩
    · rcases q3 b hb with r | r
      · exact h6 b r q
      · have := h5.flt b q; omega
    · rcases q3 b hb with r | r
      · exact h7 b r
      · have := h1.lt
        exact ⟨by omega, by omega⟩
  · obtain ⟨A2, F2, q1, q2, q3⟩ := e2.out
    exact q2.below (fun b hb => (h7 b hb).1) hBw

/-- One seat in a table of two. -/
def Solo (w : World) (B tb : Nat) : Prop := ∃ (sp : Nat) (l : Int) (m : Nat) (A : Hp) (F : Nat → Prop),
  (Blk w tb 71 2 ∧ w.cell? ⟨tb, 0, none⟩ = some (.pointer (some ⟨sp, 0, none⟩)) ∧ ∃ u, w.cell? ⟨tb, 1, none⟩ = some u) ∧ SeatAt w sp l m A 0 F ∧ ∀ b, F b → B ≤ b ∧ b ≠ tb
theorem heap_tb {w : World} {tb j b : Nat} {v : Value} (h : b ≠ tb) : (w.setCell ⟨tb, j, none⟩ v).heap[b]? = w.heap[b]? := Below.heap_setCell _ _ _ _ (fun e => h e)
theorem SeatAt.ptr {w : World} {sp : Nat} {l0 : Int} {lim : Nat} {A : Hp} {N : Nat} {F : Nat → Prop} (h : SeatAt w sp l0 lim A N F) : ∃ hp mp : Nat, w.cell? ⟨sp, 0, none⟩ = some (.int .i64 l0) ∧ w.cell? ⟨sp, 1, none⟩ = some (.pointer (some ⟨hp, 0, none⟩)) ∧ w.cell? ⟨sp, 2, none⟩ = some (.pointer (some ⟨mp, 0, none⟩)) := by
  obtain ⟨hp, mp, FH, FM, h⟩ := h
  exact ⟨hp, mp, h.c0, h.c1, h.c2⟩
theorem SeatAt.tbl {w : World} {sp : Nat} {l0 : Int} {lim : Nat} {A : Hp} {N : Nat} {F : Nat → Prop} (h : SeatAt w sp l0 lim A N F) {tb : Nat} (hF : ∀ b, F b → b ≠ tb) (j : Nat) (v : Value) : SeatAt (w.setCell ⟨tb, j, none⟩ v) sp l0 lim A N F := h.same (fun b hb => heap_tb (hF b hb)) (by simp)
theorem solo_of {w w1 : World} {B tb sp : Nat} {n : Int} {u u' : Value} {F : Nat → Prop} (hb : Blk w tb 71 2) (c0 : w.cell? ⟨tb, 0, none⟩ = some u) (c1 : w.cell? ⟨tb, 1, none⟩ = some u') (hB : B ≤ w.heap.size) (k : Below w.heap.size w w1) (h : SeatAt w1 sp n (limS n) [] 0 F) (hF : ∀ b, F b → w.heap.size ≤ b) : Solo (w1.setCell ⟨tb, 0, none⟩ (.pointer (some ⟨sp, 0, none⟩))) B tb := by
  have e := k.block tb hb.lt
  have ne : ∀ b, F b → b ≠ tb := fun b q e => by have := hF b q; have := hb.lt; omega
  exact ⟨sp, n, _, _, F, ⟨(hb.next k).setCell _ _, World.cell?_setCell_same _ _ _ ((World.cell?_of_block (a := ⟨tb, 0, none⟩) e).trans c0), u', (World.cell?_setCell_other _ _ _ _ (by simp)).trans ((World.cell?_of_block (a := ⟨tb, 1, none⟩) e).trans c1)⟩, h.tbl ne _ _, fun b q => ⟨by have := hF b q; omega, ne b q⟩⟩
theorem duo_of {w w1 : World} {B tb sp : Nat} {n : Int} {F : Nat → Prop} (hs : Solo w B tb) (hB : B ≤ w.heap.size) (k : Below w.heap.size w w1) (h : SeatAt w1 sp n (limS n) [] 0 F) (hF : ∀ b, F b → w.heap.size ≤ b) : Duo (w1.setCell ⟨tb, 1, none⟩ (.pointer (some ⟨sp, 0, none⟩))) B tb 0 0 := by
  obtain ⟨s0, l, m, A, F0, ⟨hb, c0, u, c1⟩, h0, f0⟩ := hs
  have e := k.block tb hb.lt
  have ne : ∀ b, F b → b ≠ tb := fun b q e => by have := hF b q; have := hb.lt; omega
  exact ⟨s0, sp, l, n, m, _, A, _, F0, F, ⟨(hb.next k).setCell _ _, (World.cell?_setCell_other _ _ _ _ (by simp)).trans ((World.cell?_of_block (a := ⟨tb, 0, none⟩) e).trans c0), World.cell?_setCell_same _ _ _ ((World.cell?_of_block (a := ⟨tb, 1, none⟩) e).trans c1)⟩, ⟨(h0.next k).tbl (fun b q => (f0 b q).2) _ _, h.tbl ne _ _⟩, fun b q r => by have := h0.flt b q; have := hF b r; omega, f0, fun b q => ⟨by have := hF b q; omega, ne b q⟩⟩
theorem Duo.more {w : World} {B tb N M k : Nat} (h : Duo w B tb N k) (e : N ≤ M) : Duo w B tb M k := by
  obtain ⟨sp, so, l, l', m, m', A, A', F, F', ⟨h1, h2, h3⟩, ⟨h4, h5⟩, h6, h7, h8⟩ := h
  exact ⟨sp, so, l, l', m, m', A, A', F, F', ⟨h1, h2, h3⟩, ⟨h4.more e, h5.more e⟩, h6, h7, h8⟩
/-- The seat k is copied to the other place of the table. -/
theorem Duo.clones {w : World} {B tb N k : Nat} (h : Duo w B tb N k) (hk : k ≤ 1) (hBt : B ≤ tb) (hB : B ≤ w.heap.size) (hNb : N ≤ 2000000000000) :
    ∃ (sp hp mp : Nat) (l : Int), (w.cell? ⟨tb, k, none⟩ = some (.pointer (some ⟨sp, 0, none⟩)) ∧ w.cell? ⟨sp, 0, none⟩ = some (.int .i64 l) ∧ w.cell? ⟨sp, 1, none⟩ = some (.pointer (some ⟨hp, 0, none⟩)) ∧ w.cell? ⟨sp, 2, none⟩ = some (.pointer (some ⟨mp, 0, none⟩)) ∧ (sp < w.heap.size ∧ tb < w.heap.size)) ∧
      Calls Tryd.prog 17 #[.pointer (some ⟨hp, 0, none⟩)] w fun e w1 => ∃ hc : Nat, e = .returned (.pointer (some ⟨hc, 0, none⟩)) ∧ Below w.heap.size w w1 ∧ Hid (∀ W, Below w1.heap.size w1 W → Calls Tryd.prog 28 #[.pointer (some ⟨mp, 0, none⟩)] W fun e w2 => ∃ v, e = .returned v ∧ ∃ mc : Nat, v = .pointer (some ⟨mc, 0, none⟩) ∧ Below w1.heap.size w1 w2 ∧
        Hid (Duo ((w2.alloc (.cells #[.int .i64 l, .pointer (some ⟨hc, 0, none⟩), .pointer (some ⟨mc, 0, none⟩)] 74)).setCell ⟨tb, 1 - k, none⟩ (.pointer (some ⟨w2.heap.size, 0, none⟩))) B tb N k ∧ Below B w ((w2.alloc (.cells #[.int .i64 l, .pointer (some ⟨hc, 0, none⟩), .pointer (some ⟨mc, 0, none⟩)] 74)).setCell ⟨tb, 1 - k, none⟩ (.pointer (some ⟨w2.heap.size, 0, none⟩))))) := by
  obtain ⟨sp, so, l, l', m, m', A, A', F, F', ⟨h1, h2, h3⟩, ⟨h4, h5⟩, h6, h7, h8⟩ := h
  have h4' := h4
  obtain ⟨hp, mp, FH, FM, hC⟩ := h4'
  refine ⟨sp, hp, mp, l, ⟨h2, hC.c0, hC.c1, hC.c2, hC.blk.lt, h1.lt⟩, ?_⟩
  refine (clone_heap hC.hh).mono fun e w1 ⟨e1, e2⟩ => ?_
  obtain ⟨FC, g1, g2, b1⟩ := e2.out
  refine ⟨_, e1, b1, fun W hW => ?_⟩
  refine (rclone_any ((hC.hm.next b1).next hW) hNb).mono fun e w2 ⟨e3, e4⟩ => ?_
  obtain ⟨FD, g3, g4, b2⟩ := e4.out
  have zW := hW.size
  have z1 := b1.size
  have b12 : Below w1.heap.size w1 w2 := hW.trans (b2.mono hW.size)
  have z12 := b12.size
  have b02 : Below w.heap.size w w2 := b1.trans (b12.mono b1.size)
  refine ⟨_, e3, _, rfl, b12, ?_⟩
  obtain ⟨FS, q1, q2⟩ := seat_new (w := w) (l0 := l) g1 g2 z1 b12 g3 (fun b hb => by have := g4 b hb; omega) hC.lm hC.rg
  have nb : Below w2.heap.size w2 (w2.alloc (.cells #[.int .i64 l, .pointer (some ⟨w.heap.size, 0, none⟩), .pointer (some ⟨W.heap.size, 0, none⟩)] 74)) := (Below.refl _ w2).alloc (Nat.le_refl _) _
  have b0 : Below w.heap.size w (w2.alloc (.cells #[.int .i64 l, .pointer (some ⟨w.heap.size, 0, none⟩), .pointer (some ⟨W.heap.size, 0, none⟩)] 74)) := b02.trans (nb.mono b02.size)
  generalize w2.alloc (.cells #[.int .i64 l, .pointer (some ⟨w.heap.size, 0, none⟩), .pointer (some ⟨W.heap.size, 0, none⟩)] 74) = Y at q1 b0 nb ⊢
  have e := b0.block tb h1.lt
  have ne : ∀ b, FS b → b ≠ tb := fun b q e => by have := q2 b q; have := h1.lt; omega
  refine ⟨⟨sp, _, l, l, m, m, A, A, F, FS, ⟨(h1.next b0).setCell _ _, (World.cell?_setCell_other _ _ _ _ (by first | (simp; done) | (simp; omega))).trans ((World.cell?_of_block (a := ⟨tb, k, none⟩) e).trans h2), World.cell?_setCell_same _ _ _ ((World.cell?_of_block (a := ⟨tb, 1 - k, none⟩) e).trans h3)⟩, ⟨(h4.next b0).tbl (fun b q => (h7 b q).2) _ _, q1.tbl ne _ _⟩, fun b q r => by have := h4.flt b q; have := q2 b r; omega, h7, fun b q => ⟨by have := q2 b q; omega, ne b q⟩⟩, ?_⟩
  have k0 : Kp (fun b => b = tb) w (Y.setCell ⟨tb, 1 - k, none⟩ (.pointer (some ⟨w2.heap.size, 0, none⟩))) := (Kp.of (F := fun b => b = tb) b0).setCell (p := ⟨tb, 1 - k, none⟩) (.inl rfl) _
  exact k0.below (fun b hb => by omega) hB
end Go.Proofs.YtdcioemjmmhbhaaDoor
