import Derived.Test.YtdcioemjmmhbhaaDoorRSv
import Derived.Test.YtdcioemjmmhbhaaDoorRCl
import Derived.Test.YtdcioemjmmhbhaaDoorQuad
namespace Go.Proofs.YtdcioemjmmhbhaaDoor
open Go.RowKit

/-- A seat in memory: a heap of the program and one of the reference that say the same. -/
structure SeatC (w : World) (sp : Nat) (l0 : Int) (lim : Nat) (A : Hp) (N hp mp : Nat) (FH FM F : Nat → Prop) : Prop where
  blk : Blk w sp 74 3
  c0 : w.cell? ⟨sp, 0, none⟩ = some (.int .i64 l0)
  c1 : w.cell? ⟨sp, 1, none⟩ = some (.pointer (some ⟨hp, 0, none⟩))
  c2 : w.cell? ⟨sp, 2, none⟩ = some (.pointer (some ⟨mp, 0, none⟩))
  hh : HeapOf w hp lim A FH
  hm : RefOf w mp lim A N FM
  fh : ∀ b, FH b → F b ∧ ¬ FM b ∧ b ≠ sp
  fm : ∀ b, FM b → F b ∧ b ≠ sp
  fs : F sp
  flt : ∀ b, F b → b < w.heap.size
  lm : limS l0 = lim
  rg : rngA A
def SeatAt (w : World) (sp : Nat) (l0 : Int) (lim : Nat) (A : Hp) (N : Nat) (F : Nat → Prop) : Prop := ∃ hp mp FH FM, SeatC w sp l0 lim A N hp mp FH FM F
theorem SeatC.same {w w' : World} {sp : Nat} {l0 : Int} {lim : Nat} {A : Hp} {N hp mp : Nat} {FH FM F : Nat → Prop} (h : SeatC w sp l0 lim A N hp mp FH FM F) (hk : ∀ b, F b → w'.heap[b]? = w.heap[b]?) (hs : w.heap.size ≤ w'.heap.size) : SeatC w' sp l0 lim A N hp mp FH FM F where
  blk := h.blk.same (hk sp h.fs)
  c0 := (World.cell?_of_block (w := w) (a := ⟨sp, 0, none⟩) (hk sp h.fs)).trans h.c0
  c1 := (World.cell?_of_block (w := w) (a := ⟨sp, 1, none⟩) (hk sp h.fs)).trans h.c1
  c2 := (World.cell?_of_block (w := w) (a := ⟨sp, 2, none⟩) (hk sp h.fs)).trans h.c2
  hh := h.hh.same (fun b hb => hk b (h.fh b hb).1) hs
  hm := h.hm.same (fun b hb => hk b (h.fm b hb).1) hs
  fh := h.fh
  fm := h.fm
  fs := h.fs
  flt b hb := Nat.lt_of_lt_of_le (h.flt b hb) hs
  lm := h.lm
  rg := h.rg
theorem SeatC.next {w w' : World} {sp : Nat} {l0 : Int} {lim : Nat} {A : Hp} {N hp mp : Nat} {FH FM F : Nat → Prop} (h : SeatC w sp l0 lim A N hp mp FH FM F) (k : Below w.heap.size w w') : SeatC w' sp l0 lim A N hp mp FH FM F := h.same (fun b hb => k.block b (h.flt b hb)) k.size
theorem SeatC.txt {w : World} {sp : Nat} {l0 : Int} {lim : Nat} {A : Hp} {N hp mp : Nat} {FH FM F : Nat → Prop} (h : SeatC w sp l0 lim A N hp mp FH FM F) : ∀ a ∈ A, ∀ v ∈ a.2, v.2.2.size ≤ 256 := fun a ha v hv => may_small (h.hh.ok a ha v hv)
/-- The program's heap has gone on, then the reference's: both say the same again. -/
theorem SeatC.goes {w w3 w4 w5 w' : World} {sp : Nat} {l0 : Int} {lim : Nat} {A A' : Hp} {N N' hp mp : Nat} {FH FM F FH' FM' : Nat → Prop} (h : SeatC w sp l0 lim A N hp mp FH FM F) (k1 : Kp FH w w3) (h1 : HeapOf w3 hp lim A' FH') (f1 : ∀ b, FH' b → FH b ∨ w.heap.size ≤ b) (k2 : Below w3.heap.size w3 w4) (k3 : Kp FM w4 w5) (h2 : RefOf w5 mp lim A' N' FM') (f2 : ∀ b, FM' b → FM b ∨ w4.heap.size ≤ b) (k4 : Below w5.heap.size w5 w') (hr : rngA A') :
    ∃ F', SeatAt w' sp l0 lim A' N' F' ∧ Kp F w w' ∧ ∀ b, F' b → F b ∨ w.heap.size ≤ b := by
  have z1 := k1.size
  have z2 := k2.size
  have z3 := k3.size
  have z4 := k4.size
  have hmlt := h.hm.flt
  have hF1 : ∀ b, FH' b → ¬ FM b := fun b hb hm => by
    rcases f1 b hb with q | q
    · exact (h.fh b q).2.1 hm
    · have := hmlt b hm; omega
  have hspH : ∀ b, FH' b → b ≠ sp := fun b hb e => by
    rcases f1 b hb with q | q
    · exact (h.fh b q).2.2 e
    · have := h.blk.lt; omega
  have hspM : ∀ b, FM' b → b ≠ sp := fun b hb e => by
    rcases f2 b hb with q | q
    · exact (h.fm b q).2 e
    · have := h.blk.lt; omega
  have hsp : ∀ x, x < w.heap.size → ¬ FH x → ¬ FM x → w'.heap[x]? = w.heap[x]? := fun x hx n1 n2 =>
    (k4.block x (by omega)).trans ((k3.block x (by omega) n2).trans ((k2.block x (by omega)).trans (k1.block x hx n1)))
  have esp : w'.heap[sp]? = w.heap[sp]? := hsp sp h.blk.lt (fun q => (h.fh sp q).2.2 rfl) (fun q => (h.fm sp q).2 rfl)
  have h1' : HeapOf w' hp lim A' FH' := ((h1.next k2).kept k3 hF1).next k4
  refine ⟨fun b => F b ∨ FH' b ∨ FM' b, ⟨hp, mp, FH', FM', ?_⟩, ?_, fun b hb => ?_⟩
  · exact {
      blk := h.blk.same esp
      c0 := (World.cell?_of_block (w := w) (a := ⟨sp, 0, none⟩) esp).trans h.c0
      c1 := (World.cell?_of_block (w := w) (a := ⟨sp, 1, none⟩) esp).trans h.c1
      c2 := (World.cell?_of_block (w := w) (a := ⟨sp, 2, none⟩) esp).trans h.c2
      hh := h1'
      hm := h2.next k4
      fh := fun b hb => ⟨.inr (.inl hb), fun q => by
        rcases f2 b q with r | r
        · exact hF1 b hb r
        · have := h1.flt b hb; omega, hspH b hb⟩
      fm := fun b hb => ⟨.inr (.inr hb), hspM b hb⟩
      fs := .inl h.fs
      flt := fun b hb => by
        rcases hb with q | q | q
        · have := h.flt b q; omega
        · exact h1'.flt b q
        · exact (h2.next k4).flt b q
      lm := h.lm
      rg := hr }
  · exact ⟨k4.os.trans (k3.os.trans (k2.os.trans k1.os)), k4.tape.trans (k3.tape.trans (k2.tape.trans k1.tape)), k4.output.trans (k3.output.trans (k2.output.trans k1.output)), by omega, fun x hx hn => hsp x hx (fun q => hn (h.fh x q).1) (fun q => hn (h.fm x q).1)⟩
  · rcases hb with q | q | q
    · exact .inl q
    · rcases f1 b q with r | r
      · exact .inl (h.fh b r).1
      · exact .inr r
    · rcases f2 b q with r | r
      · exact .inl (h.fm b r).1
      · exact .inr (by omega)
/-- Nothing of the heaps has turned. -/
theorem SeatC.rests {w w' : World} {sp : Nat} {l0 : Int} {lim : Nat} {A : Hp} {N hp mp : Nat} {FH FM F : Nat → Prop} (h : SeatC w sp l0 lim A N hp mp FH FM F) (k : Below w.heap.size w w') : ∃ F', SeatAt w' sp l0 lim A N F' ∧ Kp F w w' ∧ ∀ b, F' b → F b ∨ w.heap.size ≤ b := ⟨F, ⟨hp, mp, FH, FM, h.next k⟩, Kp.of k, fun _ hb => .inl hb⟩

theorem callM (a b c : Value) (w : World) : (callFunc 20 #[a, b, c]).run Tryd.prog w = .ok (.enter 20 #[a, b, c]) w := by kernel_rfl
theorem callRM (a b c : Value) (w : World) : (callFunc 45 #[a, b, c]).run Tryd.prog w = .ok (.enter 45 #[a, b, c]) w := by kernel_rfl

/-- A value that was laid ahead of the call is there behind it. -/
theorem keep3 {X w3 : World} {FH : Nat → Prop} {P : (Nat → Prop) → Prop} {Q : (Nat → Prop) → Prop} (hf : ∀ b, FH b → b < X.heap.size) (hq : Hid (∃ F', P F' ∧ Kp FH (X.drew.alloc (.cells #[.int .i64 0, .int .i64 0, .string ⟨#[]⟩] 37)) w3 ∧ Q F')) : Box3 w3 X.heap.size 0 0 ⟨#[]⟩ := by
  obtain ⟨F', _, k, _⟩ := hq.out
  have b := Box3.new X.drew 0 0 ⟨#[]⟩ 37
  exact b.same (k.block X.heap.size (by simp) (fun q => by have := hf _ q; omega))
/-- What a call has made of a heap. -/
def Gone (X W : World) (FH : Nat → Prop) (R : World → (Nat → Prop) → Prop) : Prop := ∃ F', R W F' ∧ Kp FH X W ∧ ∀ b, F' b → FH b ∨ X.heap.size ≤ b
theorem leaf1 {X w3 : World} {FH : Nat → Prop} {R : World → (Nat → Prop) → Prop} (mk mn : Int) (ms : ByteArray) (hR : ∀ W W' F', R W F' → (∀ b, F' b → W'.heap[b]? = W.heap[b]?) → W.heap.size ≤ W'.heap.size → R W' F') (hL : ∀ W F', R W F' → ∀ b, F' b → b < W.heap.size) (hq : Hid (∃ F', R w3 F' ∧ Kp FH X.drew w3 ∧ ∀ b, F' b → FH b ∨ X.drew.heap.size ≤ b)) :
    Gone X (w3.alloc (.cells #[.int .i64 mk, .int .i64 mn, .string ms] 37)) FH R ∧ Box3 (w3.alloc (.cells #[.int .i64 mk, .int .i64 mn, .string ms] 37)) w3.heap.size mk mn ms ∧ X.heap.size ≤ w3.heap.size ∧ w3.heap.size < (w3.alloc (.cells #[.int .i64 mk, .int .i64 mn, .string ms] 37)).heap.size := by
  obtain ⟨F', h1, h2, h3⟩ := hq.out
  have nb : Below w3.heap.size w3 (w3.alloc (.cells #[.int .i64 mk, .int .i64 mn, .string ms] 37)) := (Below.refl _ w3).alloc (Nat.le_refl _) _
  exact ⟨⟨F', hR _ _ _ h1 (fun b hb => nb.block b (hL _ _ h1 b hb)) nb.size, (((Kp.of (F := FH) (Below.refl _ X).drew).trans h2 (fun _ _ q => q)).next nb), h3⟩, Box3.new _ _ _ _ _, h2.size, by simp⟩
theorem leaf2 {X w3 : World} {FH : Nat → Prop} {R : World → (Nat → Prop) → Prop} (mk mn : Int) (ms : ByteArray) (hf : ∀ b, FH b → b < X.heap.size) (hR : ∀ W W' F', R W F' → (∀ b, F' b → W'.heap[b]? = W.heap[b]?) → W.heap.size ≤ W'.heap.size → R W' F') (hq : Hid (∃ F', R w3 F' ∧ Kp FH (X.drew.alloc (.cells #[.int .i64 0, .int .i64 0, .string ⟨#[]⟩] 37)) w3 ∧ ∀ b, F' b → FH b ∨ (X.drew.alloc (.cells #[.int .i64 0, .int .i64 0, .string ⟨#[]⟩] 37)).heap.size ≤ b)) :
    Gone X (put3 w3 X.heap.size mk mn ms) FH R ∧ Box3 (put3 w3 X.heap.size mk mn ms) X.heap.size mk mn ms ∧ X.heap.size ≤ X.heap.size ∧ X.heap.size < (put3 w3 X.heap.size mk mn ms).heap.size := by
  have b3 := keep3 (P := R w3) (Q := fun F' => ∀ b, F' b → FH b ∨ (X.drew.alloc (.cells #[.int .i64 0, .int .i64 0, .string ⟨#[]⟩] 37)).heap.size ≤ b) hf hq
  obtain ⟨F', h1, h2, h3⟩ := hq.out
  have z := h2.size
  rw [World.size_alloc] at z
  have z' : X.heap.size + 1 ≤ w3.heap.size := z
  have hne : ∀ b, F' b → b ≠ X.heap.size := fun b hb e => by
    rcases h3 b hb with q | q
    · have := hf b q; omega
    · rw [World.size_alloc] at q
      have q' : X.heap.size + 1 ≤ b := q
      omega
  refine ⟨⟨F', hR _ _ _ h1 (fun b hb => put3_heap (hne b hb)) (by rw [put3_size]; exact Nat.le_refl _), ?_, fun b hb => ?_⟩, b3.put mk mn ms, Nat.le_refl _, by rw [put3_size]; omega⟩
  · have k0 : Kp FH X w3 := (Kp.of (F := FH) (((Below.refl _ X).drew).alloc (Nat.le_refl _) (.cells #[.int .i64 0, .int .i64 0, .string ⟨#[]⟩] 37))).trans h2 (fun _ _ q => q)
    exact ((k0.setCell (p := ⟨X.heap.size, 0, none⟩) (.inr (Nat.le_refl _)) _).setCell (p := ⟨X.heap.size, 1, none⟩) (.inr (Nat.le_refl _)) _).setCell (p := ⟨X.heap.size, 2, none⟩) (.inr (Nat.le_refl _)) _
  · rcases h3 b hb with q | q
    · exact .inl q
    · rw [World.size_alloc] at q
      have q' : X.heap.size + 1 ≤ b := q
      exact .inr (by omega)
theorem eqlVV (k n : Int) (s : ByteArray) : ∀ w : World, (binOp BinOp.eql 37 (.agg #[.int .i64 k, .int .i64 n, .string s]) (.agg #[.int .i64 k, .int .i64 n, .string s])).run Tryd.prog w = .ok (.bool true) w := by
  intro w
  simp [go_sem]

set_option maxRecDepth 100000 in
set_option maxHeartbeats 4000000 in
theorem does1 {w : World} {sp : Nat} {l0 : Int} {lim : Nat} {A : Hp} {N : Nat} {F : Nat → Prop} (h : SeatAt w sp l0 lim A N F) (hz : Zt w) (hF : ¬ F 0) (on kd n : Int) (rk rn : Int) (rs : ByteArray) (xk xn : Int) (xs : ByteArray) (hxr : inR xn) :
    Calls Tryd.prog 29 #[.pointer (some ⟨sp, 0, none⟩), .agg #[.int .i64 1, .int .i64 on, .int .i64 kd, .int .i64 n, .int .i64 rk, .int .i64 rn, .string rs, .int .i64 xk, .int .i64 xn, .string xs]] w fun e w' => e = .returned (.bool true) ∧ Hid (∃ A' F', SeatAt w' sp l0 lim A' N F' ∧ Kp F w w' ∧ ∀ b, F' b → F b ∨ w.heap.size ≤ b) := by
  obtain ⟨hp, mp, FH, FM, h⟩ := h
  have B0 : Below w.heap.size w (w.alloc (.cells #[.int .i64 1, .int .i64 on, .int .i64 kd, .int .i64 n, .int .i64 rk, .int .i64 rn, .string rs, .int .i64 xk, .int .i64 xn, .string xs] 39)) := (Below.refl _ w).alloc (Nat.le_refl _) _
  have sn := sc_new w ⟨1, on, kd, n, (rk, rn, rs), (xk, xn, xs)⟩ 39
  unfold sc at sn
  simp only at sn
  have hzX0 : w.heap.size < (w.alloc (.cells #[.int .i64 1, .int .i64 on, .int .i64 kd, .int .i64 n, .int .i64 rk, .int .i64 rn, .string rs, .int .i64 xk, .int .i64 xn, .string xs] 39)).heap.size := by simp
  go_enter Tryd.func29, Tryd.ntmps29
  go_upto_region 1 with fail
  generalize w.alloc (.cells #[.int .i64 1, .int .i64 on, .int .i64 kd, .int .i64 n, .int .i64 rk, .int .i64 rn, .string rs, .int .i64 xk, .int .i64 xn, .string xs] 39) = X at B0 sn hzX0 ⊢
  have hX := h.next B0
  have hzX : Zt X := hz.same (B0.block 0 hz.pos)
  have v0 : X.cell? ⟨w.heap.size, 0, none⟩ = some (.int .i64 1) := sn 0 _ rfl
  have v2 : X.cell? ⟨w.heap.size, 2, none⟩ = some (.int .i64 kd) := sn 2 _ rfl
  have v3 : X.cell? ⟨w.heap.size, 3, none⟩ = some (.int .i64 n) := sn 3 _ rfl
  have c1 := hX.c1
  have HFH : Hid (∀ b, FH b → b < X.heap.size) := hX.hh.flt
  have hFH0 : ¬ FH 0 := fun q => hF (h.fh 0 q).1
  obtain ⟨M, hM⟩ : ∃ M, makeH A lim kd n = M := ⟨_, rfl⟩
  obtain ⟨M1, ⟨mk, mn, ms⟩, mt⟩ := M
  have HMK : Hid (∀ W, Below X.heap.size X W → Calls Tryd.prog 20 #[.pointer (some ⟨hp, 0, none⟩), .int .i64 kd, .int .i64 n] W fun e w' => ∃ v, e = .returned v ∧ (v = .tuple #[.agg #[.int .i64 mk, .int .i64 mn, .string ms], .int .i64 mt] ∧ Hid (∃ F', HeapOf w' hp lim M1 F' ∧ Kp FH W w' ∧ ∀ b, F' b → FH b ∨ W.heap.size ≤ b))) := fun W hW => by
    have := make_any (hX.hh.next hW) (hzX.same (hW.block 0 hzX.pos)) hFH0 kd n
    rw [hM] at this
    exact this.mono fun e w' ⟨e1, e2⟩ => ⟨_, e1, rfl, e2⟩
  have SV : Hid (∀ W, Kp FH X W → W.cell? ⟨sp, 1, none⟩ = some (.pointer (some ⟨hp, 0, none⟩)) ∧ W.cell? ⟨w.heap.size, 2, none⟩ = some (.int .i64 kd) ∧ W.cell? ⟨w.heap.size, 3, none⟩ = some (.int .i64 n) ∧ Kp FH X W) := fun W hW => by
    have e1 := hW.block sp hX.blk.lt (fun q => (hX.fh sp q).2.2 rfl)
    have e2 := hW.block w.heap.size hzX0 (fun q => by have := h.flt _ (h.fh _ q).1; omega)
    exact ⟨(World.cell?_of_block (a := ⟨sp, 1, none⟩) e1).trans c1, (World.cell?_of_block (a := ⟨w.heap.size, 2, none⟩) e2).trans v2, (World.cell?_of_block (a := ⟨w.heap.size, 3, none⟩) e2).trans v3, hW⟩
  have hcd : Kp FH X X.drew := Kp.of (Below.refl _ _).drew
  have HMM : Hid (makeH A lim kd n = (M1, (mk, mn, ms), mt)) := hM
  have HRG : Hid (rngA M1) := by
    have := rng_take (lim := lim) (s := ⟨1, on, kd, n, (rk, rn, rs), (xk, xn, xs)⟩) h.rg hxr
    unfold takeS at this
    rw [if_pos rfl, hM] at this
    exact this
  clear sn hM
  go_wp2_with fail
  clear v0
  go_region_held3 (fun w' => w'.cell? ⟨sp, 1, none⟩ = some (.pointer (some ⟨hp, 0, none⟩)) ∧ w'.cell? ⟨w.heap.size, 2, none⟩ = some (.int .i64 kd) ∧ w'.cell? ⟨w.heap.size, 3, none⟩ = some (.int .i64 n) ∧ Kp FH X w') (first | exact SV.out _ (by assumption) | exact SV.out _ (Kp.alloc (by assumption) _) | exact SV.out _ (Kp.setCell (Kp.setCell (Kp.setCell (by assumption) (.inr (Nat.le_refl _)) _) (.inr (Nat.le_refl _)) _) (.inr (Nat.le_refl _)) _) | exact SV.out _ (Kp.setCell (Kp.setCell (Kp.setCell (Kp.alloc (by assumption) _) (.inr hz3) _) (.inr hz3) _) (.inr hz3) _))
    (first
    | (go_at_call 20; refine (HMK.out _ (by first | exact (Below.refl _ _).drew | exact ((Below.refl _ _).drew).alloc (Nat.le_refl _) _)).mono ?_; rintro e w3 ⟨v3', rfl, rfl, hq3⟩; replace hcd : Kp FH X w3 := (by obtain ⟨F', -, k, -⟩ := hq3.out; first | exact (Kp.of (F := FH) (Below.refl _ X).drew).trans k (fun _ _ q => q) | exact (Kp.of (F := FH) (((Below.refl _ X).drew).alloc (Nat.le_refl _) _)).trans k (fun _ _ q => q)); have hz3 : X.heap.size ≤ w3.heap.size := hcd.size; first | (obtain ⟨⟨⟨y0, g0⟩, ⟨y1, g1⟩⟩, y2, g2⟩ := keep3 HFH.out hq3) | skip))
  all_goals
    clear hcd SV HMK hz3
    try clear y0 y1 y2 g0 g1 g2
    first
      | (have HG0 := leaf1 (X := X) mk mn ms (R := fun W F' => HeapOf W hp lim M1 F') (fun _ _ _ h1 h2 h3 => h1.same h2 h3) (fun _ _ h1 => h1.flt) hq3
         generalize w3.alloc (.cells #[.int .i64 mk, .int .i64 mn, .string ms] 37) = W4 at HG0 ⊢
         generalize w3.heap.size = ba at HG0 ⊢)
      | (have HG0 := leaf2 (X := X) mk mn ms (R := fun W F' => HeapOf W hp lim M1 F') HFH.out (fun _ _ _ h1 h2 h3 => h1.same h2 h3) hq3
         change Exit.then _ _ Exit.normal _ (put3 w3 X.heap.size mk mn ms)
         generalize put3 w3 X.heap.size mk mn ms = W4 at HG0 ⊢
         obtain ⟨ba, hba⟩ : ∃ ba, X.heap.size = ba := ⟨_, rfl⟩
         rw [hba] at HG0 ⊢
         replace HG0 : Gone X W4 FH (fun W F' => HeapOf W hp lim M1 F') ∧ Box3 W4 ba mk mn ms ∧ X.heap.size ≤ ba ∧ ba < W4.heap.size := ⟨HG0.1, HG0.2.1, by omega, HG0.2.2.2⟩
         clear hba)
    clear hq3
    have HG : Hid (Gone X W4 FH (fun W F' => HeapOf W hp lim M1 F')) := HG0.1
    obtain ⟨-, bx, hba1, hba2⟩ := HG0
    have HKX : Hid (Kp FH X W4) := by obtain ⟨F', -, k, -⟩ := HG.out; exact k
    have hzW : X.heap.size ≤ W4.heap.size := HKX.out.size
    have hM4 : RefOf W4 mp lim A N FM := hX.hm.kept HKX.out (fun b hb q => (hX.fh b q).2.1 hb)
    have e1 := HKX.out.block sp hX.blk.lt (fun q => (hX.fh sp q).2.2 rfl)
    have e2 := HKX.out.block w.heap.size hzX0 (fun q => by have := h.flt _ (h.fh _ q).1; omega)
    have c2 := (World.cell?_of_block (a := ⟨sp, 2, none⟩) e1).trans hX.c2
    have u2 := (World.cell?_of_block (a := ⟨w.heap.size, 2, none⟩) e2).trans v2
    have u3 := (World.cell?_of_block (a := ⟨w.heap.size, 3, none⟩) e2).trans v3
    have HFM : Hid (∀ b, FM b → b < w.heap.size) := fun b hb => h.flt b (h.fm b hb).1
    have HFM4 : Hid (∀ b, FM b → b < W4.heap.size) := fun b hb => by have := HFM.out b hb; omega
    have HRM : Hid (∀ W, Below W4.heap.size W4 W → Calls Tryd.prog 45 #[.pointer (some ⟨mp, 0, none⟩), .int .i64 kd, .int .i64 n] W fun e w' => ∃ v, e = .returned v ∧ (v = .tuple #[.agg #[.int .i64 mk, .int .i64 mn, .string ms], .int .i64 mt] ∧ Hid (∃ F', RefOf w' mp lim M1 N F' ∧ Kp FM W w' ∧ ∀ b, F' b → FM b ∨ W.heap.size ≤ b))) := fun W hW => by
      have := rmake_any (hM4.next hW) kd n
      rw [HMM.out] at this
      exact this.mono fun e w' ⟨e1, e2⟩ => ⟨_, e1, rfl, e2⟩
    have SV : Hid (∀ W, Kp FM W4 W → W.cell? ⟨sp, 2, none⟩ = some (.pointer (some ⟨mp, 0, none⟩)) ∧ W.cell? ⟨w.heap.size, 2, none⟩ = some (.int .i64 kd) ∧ W.cell? ⟨w.heap.size, 3, none⟩ = some (.int .i64 n) ∧ Kp FM W4 W) := fun W hW => by
      have e1 := hW.block sp (by have := hX.blk.lt; omega) (fun q => (hX.fm sp q).2 rfl)
      have e2 := hW.block w.heap.size (by omega) (fun q => by have := HFM.out _ q; omega)
      exact ⟨(World.cell?_of_block (a := ⟨sp, 2, none⟩) e1).trans c2, (World.cell?_of_block (a := ⟨w.heap.size, 2, none⟩) e2).trans u2, (World.cell?_of_block (a := ⟨w.heap.size, 3, none⟩) e2).trans u3, hW⟩
    have hcd : Kp FM W4 W4.drew := Kp.of (Below.refl _ _).drew
    go_wp2_with fail
    clear c1 v2 v3 u2 u3 c2
    go_region_held3 (fun w' => w'.cell? ⟨sp, 2, none⟩ = some (.pointer (some ⟨mp, 0, none⟩)) ∧ w'.cell? ⟨w.heap.size, 2, none⟩ = some (.int .i64 kd) ∧ w'.cell? ⟨w.heap.size, 3, none⟩ = some (.int .i64 n) ∧ Kp FM W4 w') (first | exact SV.out _ (by assumption) | exact SV.out _ (Kp.alloc (by assumption) _) | exact SV.out _ (Kp.setCell (Kp.setCell (Kp.setCell (by assumption) (.inr (Nat.le_refl _)) _) (.inr (Nat.le_refl _)) _) (.inr (Nat.le_refl _)) _) | exact SV.out _ (Kp.setCell (Kp.setCell (Kp.setCell (Kp.alloc (by assumption) _) (.inr hz3) _) (.inr hz3) _) (.inr hz3) _))
      (first
      | (go_at_call 45; refine (HRM.out _ (by first | exact (Below.refl _ _).drew | exact ((Below.refl _ _).drew).alloc (Nat.le_refl _) _)).mono ?_; rintro e w3 ⟨v3', rfl, rfl, hq3⟩; replace hcd : Kp FM W4 w3 := (by obtain ⟨F', -, k, -⟩ := hq3.out; first | exact (Kp.of (F := FM) (Below.refl _ W4).drew).trans k (fun _ _ q => q) | exact (Kp.of (F := FM) (((Below.refl _ W4).drew).alloc (Nat.le_refl _) _)).trans k (fun _ _ q => q)); have hz3 : W4.heap.size ≤ w3.heap.size := hcd.size; first | (obtain ⟨⟨⟨y0, g0⟩, ⟨y1, g1⟩⟩, y2, g2⟩ := keep3 HFM4.out hq3) | skip))
    all_goals
      clear hcd SV HRM hz3
      try clear y0 y1 y2 g0 g1 g2
      first
        | (have HG0 := leaf1 (X := W4) mk mn ms (R := fun W F' => RefOf W mp lim M1 N F') (fun _ _ _ h1 h2 h3 => h1.same h2 h3) (fun _ _ h1 => h1.flt) hq3
           generalize w3.alloc (.cells #[.int .i64 mk, .int .i64 mn, .string ms] 37) = W5 at HG0 ⊢
           generalize w3.heap.size = bb at HG0 ⊢)
        | (have HG0 := leaf2 (X := W4) mk mn ms (R := fun W F' => RefOf W mp lim M1 N F') HFM4.out (fun _ _ _ h1 h2 h3 => h1.same h2 h3) hq3
           change Exit.then _ _ Exit.normal _ (put3 w3 W4.heap.size mk mn ms)
           generalize put3 w3 W4.heap.size mk mn ms = W5 at HG0 ⊢
           obtain ⟨bb, hbb⟩ : ∃ bb, W4.heap.size = bb := ⟨_, rfl⟩
           rw [hbb] at HG0 ⊢
           replace HG0 : Gone W4 W5 FM (fun W F' => RefOf W mp lim M1 N F') ∧ Box3 W5 bb mk mn ms ∧ W4.heap.size ≤ bb ∧ bb < W5.heap.size := ⟨HG0.1, HG0.2.1, by omega, HG0.2.2.2⟩
           clear hbb)
      clear hq3
      obtain ⟨hG2, bx2, hbb1, hbb2⟩ := HG0
      have HFIN : Hid (∃ A' F', SeatAt W5 sp l0 lim A' N F' ∧ Kp F w W5 ∧ ∀ b, F' b → F b ∨ w.heap.size ≤ b) := by
        obtain ⟨FH', q1, q2, q3⟩ := HG.out
        obtain ⟨FM', q4, q5, q6⟩ := hG2
        have hB0s := B0.size
        obtain ⟨F', r1, r2, r3⟩ := h.goes ((Kp.of (F := FH) B0).trans q2 (fun _ _ q => q)) q1 (fun b hb => by rcases q3 b hb with r | r; exact .inl r; exact .inr (by omega)) (Below.refl _ _) q5 q4 q6 (Below.refl _ _) HRG.out
        exact ⟨M1, F', r1, r2, r3⟩
      have bx1 : Box3 W5 ba mk mn ms := by
        obtain ⟨FM', -, q5, -⟩ := hG2
        exact bx.same (q5.block ba hba2 (fun q => by have := HFM.out _ q; omega))
      clear hG2
      obtain ⟨⟨⟨a0, -⟩, ⟨a1, -⟩⟩, a2, -⟩ := bx1
      obtain ⟨⟨⟨d0, -⟩, ⟨d1, -⟩⟩, d2, -⟩ := bx2
      have ev := eqlVV mk mn ms
      go_wp2
      go_ret
      exact ⟨by first | rfl | simp, HFIN⟩
end Go.Proofs.YtdcioemjmmhbhaaDoor
