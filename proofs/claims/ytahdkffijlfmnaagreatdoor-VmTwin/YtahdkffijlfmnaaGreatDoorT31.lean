import Derived.Lib.ConvBytes
import Derived.BigQuiet
import Derived.Lib.QuietBelow
import Derived.Test.YtahdkffijlfmnaaGreatDoorT30
import Derived.Test.YtahdkffijlfmnaaGreatDoorT27
import Derived.Test.YtahdkffijlfmnaaGreatDoorT29
import Derived.Test.YtahdkffijlfmnaaGreatDoorT18
import Derived.Test.YtahdkffijlfmnaaGreatDoorT25
namespace Go.Proofs.YtahdkffijlfmnaaGreatDoor
open Go.RowKit
open Hp (V vc vcs vaB)
theorem own_bytes (w : World) (out : List UInt8) (hn : out.length ≤ 1000000000) : OwnM (Lib.bytesWorld w 5 (Hp.str out)) 5 1 (.slice (some ⟨w.heap.size, 0, none⟩) out.length (grownCap w out.length 0 5)) out.length (Hp.bv out) := by
  have hat := Lib.bytesWorld_at_new w 5 (Hp.str out)
  have hs := Hp.rstr_size out
  have hge := grownCap_ge w out.length 0 5
  have hsz : (Lib.bytesCells w 5 (Hp.str out)).size = grownCap w out.length 0 5 := by
    unfold Lib.bytesCells
    rw [hs]
    simp [Hp.str]
    omega
  refine ⟨⟨rfl, rfl⟩, Hp.bv_len out, w.heap.size, _, _, _, rfl, hat, Nat.le_refl _, hge, grownCap_le_maxLen w out.length 0 5 (by unfold maxLen; omega), hsz, ?_⟩
  apply List.ext_getElem?
  intro j
  rw [List.getElem?_take]
  by_cases hj : j < out.length
  · rw [if_pos hj]
    have := Lib.bytesWorld_cell w 5 (Hp.str out) j (by rw [hs]; exact hj)
    simp only [World.cell?, hat] at this
    rw [Hp.str_data] at this
    have this : (Lib.bytesCells w 5 (Hp.str out))[j]? = some (.int .u8 ((out.getD j 0).toNat : Int)) := this
    have e : (Lib.bytesCells w 5 (Hp.str out)).toList[j]? = (Lib.bytesCells w 5 (Hp.str out))[j]? := by simp
    rw [e, this]
    unfold Hp.bv
    rw [List.getElem?_map, List.getElem?_eq_getElem hj, List.getD_eq_getElem?_getD, List.getElem?_eq_getElem hj]
    rfl
  · rw [if_neg hj, List.getElem?_eq_none (by rw [Hp.bv_len]; omega)]
structure RsO (w W : World) (g rb : Nat) (K : Cg) (Q : Nat → Prop) (S : Ms) (h0 h1 h2 h3 : Value) (b0 o0 : Nat) (bs : List UInt8) (fv ov : Value) (L : List Fm) : Prop where
  i : RsI w W g rb K Q (twc K S fv h0 h1 h2 h3 ov) bs
  ab : L.map (·.f) = S.fs
  fr : W.ownsRow b0 89 4 fv L.length (L.flatMap fmc)
  rw : ∀ m ∈ L, W.ownsRow b0 52 3 m.sv m.f.sl.length (vcs m.f.sl) ∧ W.ownsRow b0 52 3 m.tv m.f.st.length (vcs m.f.st)
  sp : SepL L L.length
  fb : ∀ b, obk fv = some b → b < o0
  rb' : ∀ m ∈ L, ∀ b, obk m.sv = some b ∨ obk m.tv = some b → b < o0
  ou : OwnR W 5 1 ov S.out.length (Hp.bv S.out)
  ob : ∀ b, obk ov = some b → o0 ≤ b ∧ b < W.heap.size
  b1 : w.heap.size ≤ b0
  b2 : b0 ≤ o0
  b3 : o0 ≤ W.heap.size
  nq : ∀ b, Q b → b < w.heap.size
theorem RsO.keep {w W W' : World} {g rb : Nat} {K : Cg} {Q : Nat → Prop} {S : Ms} {h0 h1 h2 h3 : Value} {b0 o0 : Nat} {bs bs' : List UInt8} {fv ov : Value} {L : List Fm} (h : RsO w W g rb K Q S h0 h1 h2 h3 b0 o0 bs fv ov L) (hi : RsI w W' g rb K Q (twc K S fv h0 h1 h2 h3 ov) bs') (kb : ∀ b, w.heap.size ≤ b → b < W.heap.size → W'.heap[b]? = W.heap[b]?) (hs : W.heap.size ≤ W'.heap.size) : RsO w W' g rb K Q S h0 h1 h2 h3 b0 o0 bs' fv ov L := by
  have b1 := h.b1
  have b2 := h.b2
  have ow : ∀ {e : TypeId} {sz : Nat} {v : Value} {n : Nat} {xs : List Value}, W.ownsRow b0 e sz v n xs → W'.ownsRow b0 e sz v n xs := fun ho => own_same ho fun x hx => kb x (by have := own_ge ho x hx; omega) (own_blk ho x hx).lt
  exact ⟨hi, h.ab, ow h.fr, fun m hm => ⟨ow (h.rw m hm).1, ow (h.rw m hm).2⟩, h.sp, h.fb, h.rb', rown_same h.ou fun b hb => kb b (by have := (h.ob b hb).1; omega) (h.ob b hb).2, fun b hb => ⟨(h.ob b hb).1, Nat.lt_of_lt_of_le (h.ob b hb).2 hs⟩, b1, b2, Nat.le_trans h.b3 hs, h.nq⟩
theorem RsO.next {w W W' : World} {g rb : Nat} {K : Cg} {Q : Nat → Prop} {S : Ms} {h0 h1 h2 h3 : Value} {b0 o0 : Nat} {bs : List UInt8} {fv ov : Value} {L : List Fm} (h : RsO w W g rb K Q S h0 h1 h2 h3 b0 o0 bs fv ov L) (k : Below W.heap.size W W') : RsO w W' g rb K Q S h0 h1 h2 h3 b0 o0 bs fv ov L := h.keep (h.i.next k) (fun b _ hl => k.block b hl) k.size
theorem RsO.read {w W W' : World} {g rb : Nat} {K : Cg} {Q : Nat → Prop} {S : Ms} {h0 h1 h2 h3 : Value} {b0 o0 : Nat} {bs bs' : List UInt8} {fv ov : Value} {L : List Fm} (h : RsO w W g rb K Q S h0 h1 h2 h3 b0 o0 bs fv ov L) (hi : RsI w W' g rb K Q (twc K S fv h0 h1 h2 h3 ov) bs') (k : Kp (fun x => x = rb) W W') : RsO w W' g rb K Q S h0 h1 h2 h3 b0 o0 bs' fv ov L := h.keep hi (fun b hb hl => k.block b hl fun e => by have e : b = rb := e; have := hi.n.2.2.2.2; omega) k.size
theorem RsF.out {w W w7 : World} {g rb : Nat} {K : Cg} {Q : Nat → Prop} {S : Ms} {h0 h1 h2 h3 ov : Value} {b0 : Nat} {bs bs' : List UInt8} {fv : Value} {L : List Fm} (h : RsF w W g rb K Q S h0 h1 h2 h3 ov b0 bs S.fs.length fv L) (k7 : Kp (fun x => x = rb) W w7) (i7 : RsI w w7 g rb K Q (twc K S fv h0 h1 h2 h3 ov) bs') (hn : S.out.length ≤ 1000000000) :
    ((Lib.bytesWorld w7 5 (Hp.str S.out)).cell? ⟨g, 13, none⟩ = some ov ∧ (Lib.bytesWorld w7 5 (Hp.str S.out)).frozen? ⟨g, 13, none⟩ = false) ∧
    RsO w ((Lib.bytesWorld w7 5 (Hp.str S.out)).setCell ⟨g, 13, none⟩ (.slice (some ⟨w7.heap.size, 0, none⟩) S.out.length (grownCap w7 S.out.length 0 5))) g rb K Q S h0 h1 h2 h3 b0 w7.heap.size bs' fv (.slice (some ⟨w7.heap.size, 0, none⟩) S.out.length (grownCap w7 S.out.length 0 5)) L := by
  have hB : Below w7.heap.size w7 (Lib.bytesWorld w7 5 (Hp.str S.out)) := ⟨rfl, rfl, rfl, by rw [Lib.bytesWorld_size]; omega, fun k hk => Lib.bytesWorld_at_old w7 5 (Hp.str S.out) k hk⟩
  have hz := Lib.bytesWorld_size w7 5 (Hp.str S.out)
  have hO := own_bytes w7 S.out hn
  generalize Lib.bytesWorld w7 5 (Hp.str S.out) = X at hB hO hz ⊢
  have iX := i7.next hB
  obtain ⟨n1, n2, n3, n4, n5⟩ := i7.n
  have b1 := h.b1
  have b2 := h.b2
  have hs7 := k7.size
  have ks : Kp (fun x => x = g) X (X.setCell ⟨g, 13, none⟩ (.slice (some ⟨w7.heap.size, 0, none⟩) S.out.length (grownCap w7 S.out.length 0 5))) := (Kp.refl (fun x => x = g) X).setCell (p := ⟨g, 13, none⟩) (.inl rfl) _
  have kb : ∀ b, w.heap.size ≤ b → b < W.heap.size → (X.setCell ⟨g, 13, none⟩ (.slice (some ⟨w7.heap.size, 0, none⟩) S.out.length (grownCap w7 S.out.length 0 5))).heap[b]? = W.heap[b]? := fun b h1 h2 => (ks.block b (by omega) (fun e => by have e : b = g := e; omega)).trans ((hB.block b (by omega)).trans (k7.block b h2 (fun e => by have e : b = rb := e; omega)))
  have ow : ∀ {e : TypeId} {sz : Nat} {v : Value} {n : Nat} {xs : List Value}, W.ownsRow b0 e sz v n xs → (X.setCell ⟨g, 13, none⟩ (.slice (some ⟨w7.heap.size, 0, none⟩) S.out.length (grownCap w7 S.out.length 0 5))).ownsRow b0 e sz v n xs := fun ho => own_same ho fun x hx => kb x (by have := own_ge ho x hx; omega) (own_blk ho x hx).lt
  have iset := iX.set 13 (by decide) (.slice (some ⟨w7.heap.size, 0, none⟩) S.out.length (grownCap w7 S.out.length 0 5))
  have hab := h.ab
  rw [List.take_length] at hab
  have hfr := h.fr
  rw [← h.ln] at hfr
  have hsp := h.sp
  rw [← h.ln] at hsp
  refine ⟨iX.cell 13 rfl, iset, hab, ow hfr, fun m hm => ⟨ow (h.rw m hm).1, ow (h.rw m hm).2⟩, hsp, fun b hb => Nat.lt_of_lt_of_le (own_blk h.fr b (obk_own hb)).lt hs7, fun m hm b hb => ?_, .inr (.inr ?_), fun b hb => ?_, b1, Nat.le_trans b2 hs7, Nat.le_trans (by omega) ks.size, h.nq⟩
  · rcases hb with hb | hb
    · exact Nat.lt_of_lt_of_le (obk_lt (h.rw m hm).1 b hb).2 hs7
    · exact Nat.lt_of_lt_of_le (obk_lt (h.rw m hm).2 b hb).2 hs7
  · obtain ⟨a1, a2, g', cap, cur, fz, a3, a4, a5, a6, a7, a8, a9⟩ := hO
    refine ⟨a1, a2, g', cap, cur, fz, a3, ?_, a5, a6, a7, a8, a9⟩
    cases a3
    exact (ks.block w7.heap.size (by omega) (fun e => by have e : w7.heap.size = g := e; omega)).trans a4
  · have := obk_own hb
    cases this
    have := ks.size
    exact ⟨Nat.le_refl _, by show w7.heap.size < _; omega⟩
theorem RsO.done {w W w9 : World} {g rb : Nat} {K : Cg} {Q : Nat → Prop} {S : Ms} {h0 h1 h2 h3 : Value} {b0 o0 : Nat} {bs : List UInt8} {fv ov : Value} {L : List Fm} (h : RsO w W g rb K Q S h0 h1 h2 h3 b0 o0 bs fv ov L)
    {As : List Hp.Ar} {rq : Option Addr} {rn rg ro : Nat} {av : Value} {Fh : Nat → Prop} (hh : Hp.HeapAt w9 (Hp.hz W.heap.size) K.lim As rq rn rg ro av Fh) (hA : Hp.absA As = S.hp) (hF : ∀ b, Fh b → W.heap.size ≤ b) (b9 : Below W.heap.size W w9) :
    ((w9.cell? ⟨g, 8, none⟩ = some h0 ∧ w9.cell? ⟨g, 9, none⟩ = some h1 ∧ w9.cell? ⟨g, 10, none⟩ = some h2 ∧ w9.cell? ⟨g, 11, none⟩ = some h3) ∧ w9.frozen? ⟨g, 8, none⟩ = false ∧ w9.frozen? ⟨g, 9, none⟩ = false ∧ w9.frozen? ⟨g, 10, none⟩ = false ∧ w9.frozen? ⟨g, 11, none⟩ = false) ∧
    (∃ L fv ov F, MachM ((((w9.setCell ⟨g, 8, none⟩ (.int .i64 (K.lim : Int))).setCell ⟨g, 9, none⟩ (.int .i64 (Hp.usedS (Hp.absA As) : Int))).setCell ⟨g, 10, none⟩ (.slice rq rn rn)).setCell ⟨g, 11, none⟩ av) g K S L fv ov F Q ∧ ∀ b, foot L fv ov F b → b = g ∨ w.heap.size ≤ b) ∧
    RsI w ((((w9.setCell ⟨g, 8, none⟩ (.int .i64 (K.lim : Int))).setCell ⟨g, 9, none⟩ (.int .i64 (Hp.usedS (Hp.absA As) : Int))).setCell ⟨g, 10, none⟩ (.slice rq rn rn)).setCell ⟨g, 11, none⟩ av) g rb K Q (twc K S fv (.int .i64 (K.lim : Int)) (.int .i64 (Hp.usedS (Hp.absA As) : Int)) (.slice rq rn rn) av ov) bs := by
  have h9 := h.next b9
  obtain ⟨n1, n2, n3, n4, n5⟩ := h9.i.n
  have b1 := h.b1
  have b2 := h.b2
  have b3 := h.b3
  have ks : Kp (fun x => x = g) w9 ((((w9.setCell ⟨g, 8, none⟩ (.int .i64 (K.lim : Int))).setCell ⟨g, 9, none⟩ (.int .i64 (Hp.usedS (Hp.absA As) : Int))).setCell ⟨g, 10, none⟩ (.slice rq rn rn)).setCell ⟨g, 11, none⟩ av) := ((((Kp.refl (fun x => x = g) w9).setCell (p := ⟨g, 8, none⟩) (.inl rfl) _).setCell (p := ⟨g, 9, none⟩) (.inl rfl) _).setCell (p := ⟨g, 10, none⟩) (.inl rfl) _).setCell (p := ⟨g, 11, none⟩) (.inl rfl) _
  have iz := (((h9.i.set 8 (by decide) (.int .i64 (K.lim : Int))).set 9 (by decide) (.int .i64 (Hp.usedS (Hp.absA As) : Int))).set 10 (by decide) (.slice rq rn rn)).set 11 (by decide) av
  have iz : RsI w ((((w9.setCell ⟨g, 8, none⟩ (.int .i64 (K.lim : Int))).setCell ⟨g, 9, none⟩ (.int .i64 (Hp.usedS (Hp.absA As) : Int))).setCell ⟨g, 10, none⟩ (.slice rq rn rn)).setCell ⟨g, 11, none⟩ av) g rb K Q (twc K S fv (.int .i64 (K.lim : Int)) (.int .i64 (Hp.usedS (Hp.absA As) : Int)) (.slice rq rn rn) av ov) bs := iz
  refine ⟨⟨⟨(h9.i.cell 8 rfl).1, (h9.i.cell 9 rfl).1, (h9.i.cell 10 rfl).1, (h9.i.cell 11 rfl).1⟩, (h9.i.cell 8 rfl).2, (h9.i.cell 9 rfl).2, (h9.i.cell 10 rfl).2, (h9.i.cell 11 rfl).2⟩, ?_, iz⟩
  generalize (((w9.setCell ⟨g, 8, none⟩ (.int .i64 (K.lim : Int))).setCell ⟨g, 9, none⟩ (.int .i64 (Hp.usedS (Hp.absA As) : Int))).setCell ⟨g, 10, none⟩ (.slice rq rn rn)).setCell ⟨g, 11, none⟩ av = Z at ks iz ⊢
  have kb : ∀ b, w.heap.size ≤ b → b < w9.heap.size → Z.heap[b]? = w9.heap[b]? := fun b h1 h2 => ks.block b h2 (fun e => by have e : b = g := e; omega)
  have hZ := h9.keep (W' := Z) (bs' := bs) (S := S) (h0 := h0) (h1 := h1) (h2 := h2) (h3 := h3) (K := K)
  have ow : ∀ {e : TypeId} {sz : Nat} {v : Value} {n : Nat} {xs : List Value}, w9.ownsRow b0 e sz v n xs → Z.ownsRow b0 e sz v n xs := fun ho => own_same ho fun x hx => kb x (by have := own_ge ho x hx; omega) (own_blk ho x hx).lt
  clear hZ
  have hhZ : Hp.HeapAt Z (Hp.hz W.heap.size) K.lim As rq rn rg ro av Fh := hh.same (fun x hx => kb x (by have := hF x hx; omega) (hh.flt x hx)) ks.size
  have fge : ∀ x, obk fv = some x → b0 ≤ x := fun x hx => own_ge h.fr x (obk_own hx)
  have rge : ∀ m ∈ L, ∀ x, obk m.sv = some x ∨ obk m.tv = some x → b0 ≤ x := fun m hm x hx => by
    rcases hx with hx | hx
    · exact own_ge (h.rw m hm).1 x (obk_own hx)
    · exact own_ge (h.rw m hm).2 x (obk_own hx)
  refine ⟨L, fv, ov, fun x => x = g ∨ Fh x, mach_of iz.c iz.q hhZ hA (.inl (own_down (ow h9.fr) (Nat.zero_le _))) h.ab (fun m hm => ⟨.inl (own_down (ow (h9.rw m hm).1) (Nat.zero_le _)), .inl (own_down (ow (h9.rw m hm).2) (Nat.zero_le _))⟩) (rown_same h9.ou fun b hb => kb b (by have := (h.ob b hb).1; omega) (h9.ob b hb).2) (fun i k x y hi hk => h.sp i k x y (List.getElem?_eq_some_iff.1 hi).1 (List.getElem?_eq_some_iff.1 hk).1 hi hk) (fun m hm x hx => ?_) (fun x hx => ?_) (fun x hx => ⟨?_, ?_, ?_, fun m hm => ⟨?_, ?_⟩⟩), fun x hx => ?_⟩
  · have := rge m hm x hx
    have := h.rb' m hm x hx
    rintro (r | r)
    · omega
    · have := hF x r; omega
  · rintro (r | r)
    · rcases hx with hx | hx
      · have := fge x hx; omega
      · have := (h.ob x hx).1; omega
    · rcases hx with hx | hx
      · have := h.fb x hx; have := hF x r; omega
      · have := (h.ob x hx).2; have := hF x r; omega
  · have := h.nq x hx
    rintro (r | r)
    · rw [r] at hx; exact n2 hx
    · have := hF x r; have := h.i.k.size; omega
  · intro q; have := fge x q; have := h.nq x hx; omega
  · intro q; have := (h.ob x q).1; have := h.nq x hx; omega
  · intro q; have := rge m hm x (.inl q); have := h.nq x hx; omega
  · intro q; have := rge m hm x (.inr q); have := h.nq x hx; omega
  · rcases hx with hx | hx | hx | ⟨m, hm, hx⟩
    · rcases hx with hx | hx
      · exact .inl hx
      · have := hF x hx; exact .inr (by omega)
    · have := fge x hx; exact .inr (by omega)
    · have := (h.ob x hx).1; exact .inr (by omega)
    · have := rge m hm x hx; exact .inr (by omega)
end Go.Proofs.YtahdkffijlfmnaaGreatDoor

namespace Go.Proofs.YtahdkffijlfmnaaGreatDoor
open Go.RowKit
open Hp (V vc vcs vaB)
def rsT (S : Ms) (b : List UInt8) : List UInt8 := Hp.numB (S.out.length : Int) 8 ++ (S.out ++ (Hp.numB ((Hp.saveS S.hp).length : Int) 8 ++ (Hp.saveS S.hp ++ b)))
def rsB (S : Ms) (b : List UInt8) : List UInt8 := Hp.numB 86 1 ++ (Hp.numB S.ph 1 ++ (Hp.numB S.tr 1 ++ (Hp.numB S.steps 8 ++ (Hp.numB (S.rd : Int) 8 ++ (Hp.numB (S.fs.length : Int) 4 ++ S.fs.foldr frC (rsT S b))))))
structure RsOk (K : Cg) (S : Ms) : Prop where
  p0 : 0 ≤ S.ph
  p2 : S.ph ≤ 2
  t0 : 0 ≤ S.tr
  t7 : S.tr ≤ 7
  s0 : 0 ≤ S.steps
  s1 : S.steps ≤ 4611686018427387904
  rd : S.rd ≤ K.inp.length
  il : K.inp.length ≤ 1000
  dp : (S.fs.length : Int) ≤ K.dep
  d2 : K.dep ≤ 1000
  el : K.Es.length ≤ 60
  fr : ∀ f ∈ S.fs, ∃ i : Nat, ∃ hi : i < K.Es.length, f.fn = (i : Int) ∧ f.sl.length = K.Es[i].1.sorts.length ∧ f.sl.length ≤ 250 ∧ f.st.length ≤ 400 ∧ (∀ v ∈ f.sl, Hp.RdV v) ∧ (∀ v ∈ f.st, Hp.RdV v) ∧ 0 ≤ f.pc ∧ K.Es[i].1.start ≤ f.pc ∧ f.pc ≤ endM K i ∧ f.pc ≤ 60000
theorem callRF (a b : Value) (w : World) : (callFunc 62 #[a, b]).run Tryz.prog w = .ok (.enter 62 #[a, b]) w := by kernel_rfl
theorem one4 (a b : Int) (p q : Option Addr) (n m : Nat) : ∀ u ∈ ([.int .i64 a, .int .i64 b, .slice p n n, .slice q m m] : List Value), u.oneCell' = true := fun u hu => by
  simp only [List.mem_cons, List.not_mem_nil, or_false] at hu
  rcases hu with rfl | rfl | rfl | rfl <;> rfl
theorem callPi (a b : Value) (w : World) : (callFunc 63 #[a, b]).run Tryz.prog w = .ok (.enter 63 #[a, b]) w := by kernel_rfl
theorem callCL (a b : Value) (w : World) : (callFunc 64 #[a, b]).run Tryz.prog w = .ok (.enter 64 #[a, b]) w := by kernel_rfl
theorem limS_self {n : Nat} (h : n ≤ 100000) : Hp.limS (n : Int) = n := by
  unfold Hp.limS
  rw [if_neg (by omega), if_neg (by omega)]
  omega
set_option maxRecDepth 100000 in
set_option maxHeartbeats 2000000 in
theorem restore_any {w : World} {g rb : Nat} {K : Cg} {Q : Nat → Prop} {S S0 : Ms} {fv0 h0 h1 h2 h3 ov : Value} (h : RsI w w g rb K Q (twc K S0 fv0 h0 h1 h2 h3 ov) (rsB S [])) (hO : RsOk K S) (hq : ∀ b, Q b → b < w.heap.size) (ho : S.out.length ≤ 100000000) (hz : Hp.Zt w) (hzg : g ≠ 4 ∧ rb ≠ 4) (hu : Hp.usedS S.hp ≤ K.lim) (hlm : K.lim ≤ 100000) (hok : Hp.okH S.hp S.hp.length) :
    Calls Tryz.prog 41 #[.pointer (some ⟨g, 0, none⟩), .pointer (some ⟨rb, 0, none⟩)] w fun e w' => (∃ u, e = .returned u) ∧ Hid ((∃ L fv ov F, MachM w' g K S L fv ov F Q ∧ ∀ b, foot L fv ov F b → b = g ∨ w.heap.size ≤ b) ∧ ∃ l, RsI w w' g rb K Q l []) := by
  unfold rsB at h
  have d1 := RsI.within 86 1 h 86 86 (by rw [Hp.nv1]; rfl) (by decide) (by decide)
  rw [show ((1 : Nat) : Int) = 1 from rfl] at d1
  have HO : Hid (RsOk K S) := hO
  clear h hO
  go_enter Tryz.func41, Tryz.ntmps41
  have hwp : IntKind.i64.wrap S.ph = S.ph := by rw [IntKind.wrap_i64]; have := HO.out.p0; have := HO.out.p2; omega
  have hwt : IntKind.i64.wrap S.tr = S.tr := by rw [IntKind.wrap_i64]; have := HO.out.t0; have := HO.out.t7; omega
  go_wp2_with (first
    | (go_at_call 61; (with_reducible refine d1.mono ?_); rintro z1 w1 ⟨rfl, H1⟩; have d2 := RsI.within S.ph 1 H1.out.1 0 2 (by rw [Hp.nv1]; have := HO.out.p0; have := HO.out.p2; omega) HO.out.p0 HO.out.p2; rw [show ((1 : Nat) : Int) = 1 from rfl] at d2; clear d1 H1)
    | (go_at_call 61; (with_reducible refine d2.mono ?_); rintro z2 w2 ⟨rfl, H2⟩; obtain ⟨c15, f15⟩ := H2.out.1.cell 15 rfl; have d3 := RsI.within S.tr 1 (H2.out.1.set 15 (by decide) (.int .i64 S.ph)) 0 7 (by rw [Hp.nv1]; have := HO.out.t0; have := HO.out.t7; omega) HO.out.t0 HO.out.t7; rw [show ((1 : Nat) : Int) = 1 from rfl] at d3; clear d2 H2)
    | (go_at_call 61; (with_reducible refine d3.mono ?_); rintro z3 w3 ⟨rfl, H3⟩; obtain ⟨c16, f16⟩ := H3.out.1.cell 16 rfl; have d4 := RsI.within S.steps 8 (H3.out.1.set 16 (by decide) (.int .i64 S.tr)) 0 4611686018427387904 (by have := HO.out.s0; have := HO.out.s1; exact Hp.num8 _ (by omega) (by omega)) HO.out.s0 HO.out.s1; rw [show ((8 : Nat) : Int) = 8 from rfl] at d4; clear d3 H3 c15 f15)
    | (go_at_call 61; (with_reducible refine d4.mono ?_); rintro z4 w4 ⟨rfl, H4⟩; obtain ⟨c14, f14⟩ := H4.out.1.cell 14 rfl; have H4S := H4.out.1.set 14 (by decide) (.int .i64 S.steps); obtain ⟨c4, -⟩ := H4S.cell 4 rfl; have d5 := RsI.within (S.rd : Int) 8 H4S 0 (K.inp.length : Int) (by have := HO.out.rd; have := HO.out.il; exact Hp.num8 _ (by omega) (by omega)) (by omega) (by have := HO.out.rd; omega); rw [show ((8 : Nat) : Int) = 8 from rfl] at d5; clear d4 H4 H4S c16 f16)
    | (go_at_call 61; (with_reducible refine d5.mono ?_); rintro z5 w5 ⟨rfl, H5⟩; obtain ⟨c12, f12⟩ := H5.out.1.cell 12 rfl; have H5S := H5.out.1.set 12 (by decide) (.int .i64 (S.rd : Int)); obtain ⟨c7, f7⟩ := H5S.cell 7 rfl; have H5T := H5S.set 7 (by decide) (.slice none 0 0); obtain ⟨c5, -⟩ := H5T.cell 5 rfl; have d6 := RsI.within (S.fs.length : Int) 4 H5T 0 K.dep (by rw [Hp.nv4]; have := HO.out.dp; have := HO.out.d2; omega) (by omega) HO.out.dp; rw [show ((4 : Nat) : Int) = 4 from rfl] at d6; clear d5 H5 H5S H5T c14 f14 c4)
    | (go_at_call 61; (with_reducible refine d6.mono ?_); rintro z6 w6 ⟨rfl, H6⟩; have HI6 : Hid (RsI w w6 g rb K Q (twc K S (.slice none 0 0) h0 h1 h2 h3 ov) (S.fs.foldr frC (rsT S []))) := H6.out.1; clear d6 H6 c12 f12 c7 f7 c5)
    | fail)
  have HF0 : Hid (RsF w w6 g rb K Q S h0 h1 h2 h3 ov w6.heap.size ((S.fs.drop 0).foldr frC (rsT S [])) 0 (.slice none 0 0) []) := ⟨HI6.out, rfl, by simp, World.ownsRow_nil _ _ _ _, fun m hm => (by cases hm), fun i k x y hi => absurd hi (by omega), HI6.out.k.size, Nat.le_refl _, hq⟩
  have HD : Hid (S.fs.length ≤ 1000) := by show S.fs.length ≤ 1000; have := HO.out.dp; have := HO.out.d2; omega
  clear HI6 hwp hwt
  go_loopw [45] (fun v wr => ∃ (j : Nat) (fv : Value) (L : List Fm), j ≤ S.fs.length ∧ v = .int .i64 (j : Int) ∧ Hid (RsF w wr g rb K Q S h0 h1 h2 h3 ov w6.heap.size ((S.fs.drop j).foldr frC (rsT S [])) j fv L)) (fun v _ => S.fs.length - (intOf v).toNat)
  case atStart => exact ⟨0, _, _, Nat.zero_le _, rfl, HF0⟩
  case round =>
    clear HF0
    obtain ⟨j, fv, L, hj, rfl, hI⟩ := hrel
    have j0 : (0 : Int) ≤ (j : Int) := Int.natCast_nonneg _
    by_cases hlt : j < S.fs.length
    case neg =>
      obtain rfl : j = S.fs.length := by omega
      rw [List.drop_length, List.foldr_nil] at hI
      unfold rsT at hI
      have d7 := RsI.piece hI.out.i
      rw [show ((8 : Nat) : Int) = 8 from rfl] at d7
      have n1 : ¬ ((S.fs.length : Int) < (S.fs.length : Int)) := by omega
      have HCV : Hid (∀ W : World, (convert 9 80 (.string (Hp.str S.out))).run Tryz.prog W = .ok (.slice (some ⟨W.heap.size, 0, none⟩) S.out.length (grownCap W S.out.length 0 5)) (Lib.bytesWorld W 5 (Hp.str S.out))) := fun W => by
        have q := Lib.run_convert_string_bytes (P := Tryz.prog) W 9 80 5 (Hp.str S.out) Tryz.underlying9 Tryz.underlying80 Tryz.underlying5
        rw [Hp.rstr_size] at q
        exact q
      clear HD
      go_wp2_with (first
        | (go_at_call 63; (with_reducible refine d7.mono ?_); rintro z7 w7 ⟨rfl, H7⟩; have hcv := HCV.out w7; obtain ⟨⟨c13, f13⟩, hO7⟩ := hI.out.out H7.out.2 H7.out.1 (by omega); have HO7 : Hid _ := hO7; clear d7 H7 hO7 hI)
        | fail)
      generalize (Lib.bytesWorld w7 5 (Hp.str S.out)).setCell ⟨g, 13, none⟩ (.slice (some ⟨w7.heap.size, 0, none⟩) S.out.length (grownCap w7 S.out.length 0 5)) = V at HO7 ⊢
      generalize Value.slice (some ⟨w7.heap.size, 0, none⟩) S.out.length (grownCap w7 S.out.length 0 5) = ov' at HO7
      clear hcv c13 f13 HCV
      have HVD : Hid (RsO w V.drew g rb K Q S h0 h1 h2 h3 w6.heap.size w7.heap.size (Hp.numB ((Hp.saveS S.hp).length : Int) 8 ++ (Hp.saveS S.hp ++ [])) fv ov' L) := HO7.out.next (Below.refl _ V).drew
      have c6 := (HVD.out.i.cell 6 rfl).1
      have d8 := RsI.piece HVD.out.i
      rw [show ((8 : Nat) : Int) = 8 from rfl] at d8
      have HLD : Hid (∀ w8, RsO w w8 g rb K Q S h0 h1 h2 h3 w6.heap.size w7.heap.size [] fv ov' L → w8.cell? ⟨g, 6, none⟩ = some (.int .i64 (K.lim : Int)) ∧ Calls Tryz.prog 64 #[.int .i64 (K.lim : Int), .string (Hp.str (Hp.saveS S.hp))] w8 fun e w' => e = .returned (.tuple #[.pointer (some ⟨w8.heap.size, 0, none⟩), .int .i64 0]) ∧ Hid (∃ F', Hp.HeapOf w' (Hp.hz w8.heap.size) K.lim S.hp F' ∧ (∀ b, F' b → w8.heap.size ≤ b) ∧ Below w8.heap.size w8 w')) := fun w8 h8 => by
        have hz8 : Hp.Zt w8 := hz.same (h8.i.k.block 4 hz.pos (fun q => by
          rcases q with q | q
          · exact hzg.1 q.symm
          · exact hzg.2 q.symm))
        have q := Hp.load_any w8 (K.lim : Int) S.hp (by rw [limS_self hlm]; exact hu) hok hz8
        rw [limS_self hlm] at q
        exact ⟨(h8.i.cell 6 rfl).1, q⟩
      clear HO7
      go_region_law (first
        | (refine step_call (by rfl) 63 [.tmp 72, .const (.int .i64 8)] _ [.pointer (some ⟨rb, 0, none⟩), .int .i64 8] (by rfl) (by rfl) (callPi _ _) (fun v w' => v = .string (Hp.str (Hp.saveS S.hp)) ∧ Hid (RsO w w' g rb K Q S h0 h1 h2 h3 w6.heap.size w7.heap.size [] fv ov' L)) (d8.mono fun _ _ q => ⟨_, q.1, rfl, HVD.out.read q.2.out.1 q.2.out.2⟩) ?_; rintro v8 w8 ⟨rfl, H8⟩; obtain ⟨e6, dL⟩ := HLD.out w8 H8.out; obtain ⟨gz, hgz⟩ : ∃ gz, w8.heap.size = gz := ⟨_, rfl⟩; have HGZ : Hid (w8.heap.size = gz) := hgz; rw [hgz] at dL; clear hgz)
        | (refine step_call (by rfl) 64 [.tmp 71, .tmp 73] _ [.int .i64 (K.lim : Int), .string (Hp.str (Hp.saveS S.hp))] (by rfl) (by rfl) (callCL _ _) (fun v w' => v = .tuple #[.pointer (some ⟨gz, 0, none⟩), .int .i64 0] ∧ Hid (∃ F', Hp.HeapOf w' (Hp.hz gz) K.lim S.hp F' ∧ (∀ b, F' b → gz ≤ b) ∧ Below gz w8 w')) (dL.mono fun _ _ q => ⟨_, q.1, rfl, q.2⟩) ?_; rintro v9 w9 ⟨rfl, H9⟩))
      all_goals
        clear c6 e6 d8 dL
        have HFI : Hid (∃ (As : List Hp.Ar) (rq : Option Addr) (rn : Nat) (aq : Option Addr) (an ac : Nat), (w9.cell? ⟨gz, 0, none⟩ = some (.int .i64 (K.lim : Int)) ∧ w9.cell? ⟨gz, 1, none⟩ = some (.int .i64 (Hp.usedS (Hp.absA As) : Int)) ∧ w9.cell? ⟨gz, 2, none⟩ = some (.slice rq rn rn) ∧ w9.cell? ⟨gz, 3, none⟩ = some (.slice aq an ac)) ∧ ((w9.cell? ⟨g, 8, none⟩ = some h0 ∧ w9.cell? ⟨g, 9, none⟩ = some h1 ∧ w9.cell? ⟨g, 10, none⟩ = some h2 ∧ w9.cell? ⟨g, 11, none⟩ = some h3) ∧ w9.frozen? ⟨g, 8, none⟩ = false ∧ w9.frozen? ⟨g, 9, none⟩ = false ∧ w9.frozen? ⟨g, 10, none⟩ = false ∧ w9.frozen? ⟨g, 11, none⟩ = false) ∧ Hid ((∃ L fv ov F, MachM ((((w9.setCell ⟨g, 8, none⟩ (.int .i64 (K.lim : Int))).setCell ⟨g, 9, none⟩ (.int .i64 (Hp.usedS (Hp.absA As) : Int))).setCell ⟨g, 10, none⟩ (.slice rq rn rn)).setCell ⟨g, 11, none⟩ (.slice aq an ac)) g K S L fv ov F Q ∧ ∀ b, foot L fv ov F b → b = g ∨ w.heap.size ≤ b) ∧ ∃ l, RsI w ((((w9.setCell ⟨g, 8, none⟩ (.int .i64 (K.lim : Int))).setCell ⟨g, 9, none⟩ (.int .i64 (Hp.usedS (Hp.absA As) : Int))).setCell ⟨g, 10, none⟩ (.slice rq rn rn)).setCell ⟨g, 11, none⟩ (.slice aq an ac)) g rb K Q l [])) := by
          obtain ⟨F', ⟨As, rq, rn, rg, ro, av, hA, hh⟩, hF, hb⟩ := H9.out
          obtain ⟨aq, ac, ea, -, -⟩ := own_slice hh.arrs
          subst ea
          have e := HGZ.out
          subst e
          obtain ⟨a1, a2, a3⟩ := H8.out.done hh hA hF hb
          exact ⟨As, rq, rn, aq, _, ac, ⟨hh.c0, hh.c1, hh.c2, hh.c3⟩, a1, a2, _, a3⟩
        obtain ⟨As, rq, rn, aq, an, ac, ⟨n0, n1', n2, n3⟩, ⟨⟨c8, c9, c10, c11⟩, f8, f9, f10, f11⟩, HFIN⟩ := HFI.out
        clear HFI H9 H8
        go_wp2_with fail
        go_end0
        exact ⟨⟨_, rfl⟩, HFIN⟩
    have j1 : (j : Int) < (S.fs.length : Int) := Int.ofNat_lt.2 hlt
    have j9 : j < 1000 := by have := HD.out; omega
    obtain ⟨f, hfe⟩ : ∃ f, S.fs[j] = f := ⟨_, rfl⟩
    have hf : S.fs[j]? = some f := by rw [List.getElem?_eq_getElem hlt, hfe]
    have hdr : (S.fs.drop j).foldr frC (rsT S []) = frC f ((S.fs.drop (j + 1)).foldr frC (rsT S [])) := by rw [List.drop_eq_getElem_cons hlt, List.foldr_cons, hfe]
    obtain ⟨i, hi, o1, o2, o3, o4, o5, o6, o7, o8, o9, o10⟩ := HO.out.fr f (List.mem_of_getElem? hf)
    rw [hdr] at hI
    obtain ⟨q7, k7, rfl, -, -⟩ := own_slice hI.out.fr
    have bD : Below wr.heap.size wr wr.drew := (Below.refl _ wr).drew
    have HID : Hid (RsF w wr.drew g rb K Q S h0 h1 h2 h3 ov w6.heap.size (frC f ((S.fs.drop (j + 1)).foldr frC (rsT S []))) j (.slice q7 j k7) L) := hI.out.next bD
    have c7 := (HID.out.i.cell 7 rfl).1
    have dF := rframe_any HID.out.i rfl rfl hi HO.out.el o1 o2 o3 o4 o5 o6 o7 o8 o9 o10
    have HJ : Hid (S.fs[j]? = some f) := hf
    have HJN : Hid (j + 1 ≤ 1000000000) := by show j + 1 ≤ 1000000000; have := HD.out; omega
    have HAP : Hid (∀ (w2 : World) (gs gt : Nat), (RsI w w2 g rb K Q (twc K S (.slice q7 j k7) h0 h1 h2 h3 ov) ((S.fs.drop (j + 1)).foldr frC (rsT S [])) ∧ Kp (fun x => x = rb) wr.drew w2 ∧ w2.ownsRow wr.drew.heap.size 52 3 (.slice (some ⟨gs, 0, none⟩) f.sl.length f.sl.length) f.sl.length (vcs f.sl) ∧ w2.ownsRow wr.drew.heap.size 52 3 (.slice (some ⟨gt, 0, none⟩) f.st.length f.st.length) f.st.length (vcs f.st) ∧ gs ≠ gt) → (w2.cell? ⟨g, 7, none⟩ = some (.slice q7 j k7) ∧ (w2.alloc (.cells #[.int .i64 f.fn, .int .i64 f.pc, .slice (some ⟨gs, 0, none⟩) f.sl.length f.sl.length, .slice (some ⟨gt, 0, none⟩) f.st.length f.st.length] 89)).cell? ⟨g, 7, none⟩ = some (.slice q7 j k7)) ∧ Hid ((w2.alloc (.cells #[.int .i64 f.fn, .int .i64 f.pc, .slice (some ⟨gs, 0, none⟩) f.sl.length f.sl.length, .slice (some ⟨gt, 0, none⟩) f.st.length f.st.length] 89)).ownsRow w6.heap.size 89 4 (.slice q7 j k7) j (L.flatMap fmc) ∧ (w2.alloc (.cells #[.int .i64 f.fn, .int .i64 f.pc, .slice (some ⟨gs, 0, none⟩) f.sl.length f.sl.length, .slice (some ⟨gt, 0, none⟩) f.st.length f.st.length] 89)).rangeAt w2.heap.size 0 [.int .i64 f.fn, .int .i64 f.pc, .slice (some ⟨gs, 0, none⟩) f.sl.length f.sl.length, .slice (some ⟨gt, 0, none⟩) f.st.length f.st.length] ∧ w6.heap.size ≤ (w2.alloc (.cells #[.int .i64 f.fn, .int .i64 f.pc, .slice (some ⟨gs, 0, none⟩) f.sl.length f.sl.length, .slice (some ⟨gt, 0, none⟩) f.st.length f.st.length] 89)).heap.size) ∧ Hid (∀ (w5 : World) (v5 : Value), w5.ownsRow w6.heap.size 89 4 v5 (j + 1) (L.flatMap fmc ++ [.int .i64 f.fn, .int .i64 f.pc, .slice (some ⟨gs, 0, none⟩) f.sl.length f.sl.length, .slice (some ⟨gt, 0, none⟩) f.st.length f.st.length]) → (w2.alloc (.cells #[.int .i64 f.fn, .int .i64 f.pc, .slice (some ⟨gs, 0, none⟩) f.sl.length f.sl.length, .slice (some ⟨gt, 0, none⟩) f.st.length f.st.length] 89)).grownBy w5 (Value.slice q7 j k7).ownBlock → (w5.cell? ⟨g, 7, none⟩ = some (.slice q7 j k7) ∧ w5.frozen? ⟨g, 7, none⟩ = false) ∧ ∃ L', RsF w (w5.setCell ⟨g, 7, none⟩ v5) g rb K Q S h0 h1 h2 h3 ov w6.heap.size ((S.fs.drop (j + 1)).foldr frC (rsT S [])) (j + 1) v5 L')) := fun w2 gs gt ⟨a1, a2, a3, a4, a5⟩ => by
      have nb : Below w2.heap.size w2 (w2.alloc (.cells #[.int .i64 f.fn, .int .i64 f.pc, .slice (some ⟨gs, 0, none⟩) f.sl.length f.sl.length, .slice (some ⟨gt, 0, none⟩) f.st.length f.st.length] 89)) := (Below.refl _ w2).alloc (Nat.le_refl _) _
      have fX := Full.new w2 #[.int .i64 f.fn, .int .i64 f.pc, .slice (some ⟨gs, 0, none⟩) f.sl.length f.sl.length, .slice (some ⟨gt, 0, none⟩) f.st.length f.st.length] 89
      obtain ⟨n1, n2, n3, n4, n5⟩ := a1.n
      have b1 := HID.out.b1
      have b2 := HID.out.b2
      have hfr2 : w2.ownsRow w6.heap.size 89 4 (.slice q7 j k7) j (L.flatMap fmc) := own_same HID.out.fr fun x hx => a2.block x (own_blk HID.out.fr x hx).lt (fun e => by have e : x = rb := e; have := own_ge HID.out.fr x hx; omega)
      refine ⟨⟨(a1.cell 7 rfl).1, ((a1.next nb).cell 7 rfl).1⟩, ⟨own_next hfr2 nb, fun k v hv => by rw [Nat.zero_add]; exact (fX.cell k v hv).1, Nat.le_trans b2 (Nat.le_trans a2.size nb.size)⟩, fun w5 v5 ho hg => ?_⟩
      obtain ⟨r1, r2⟩ := HID.out.put HJ.out a2 a1 a3 a4 a5 ho hg
      exact ⟨r1, _, r2⟩
    clear hI hf hfe hdr o1 o2 o3 o4 o5 o6 o7 o8 o9 o10 bD HJ
    go_wp2_with fail
    go_region_law (first
      | (refine step_call (by rfl) 62 [.tmp 52, .tmp 53] _ [.pointer (some ⟨g, 0, none⟩), .pointer (some ⟨rb, 0, none⟩)] (by rfl) (by rfl) (callRF _ _) (fun v w' => ∃ gs gt, v = .agg #[.int .i64 f.fn, .int .i64 f.pc, .slice (some ⟨gs, 0, none⟩) f.sl.length f.sl.length, .slice (some ⟨gt, 0, none⟩) f.st.length f.st.length] ∧ Hid (RsI w w' g rb K Q (twc K S (.slice q7 j k7) h0 h1 h2 h3 ov) ((S.fs.drop (j + 1)).foldr frC (rsT S [])) ∧ Kp (fun x => x = rb) wr.drew w' ∧ w'.ownsRow wr.drew.heap.size 52 3 (.slice (some ⟨gs, 0, none⟩) f.sl.length f.sl.length) f.sl.length (vcs f.sl) ∧ w'.ownsRow wr.drew.heap.size 52 3 (.slice (some ⟨gt, 0, none⟩) f.st.length f.st.length) f.st.length (vcs f.st) ∧ gs ≠ gt)) (dF.mono fun _ _ q => by (obtain ⟨gs, gt, r1, r2⟩ := q; exact ⟨_, r1, gs, gt, rfl, r2⟩)) ?_; rintro v2 w2 ⟨gs, gt, rfl, H2⟩; obtain ⟨⟨e7, x7⟩, HX, HP⟩ := HAP.out w2 gs gt H2.out)
      | (refine step_app 79 89 _ 4 64 Tryz.underlying79 info_fr (by rfl) (by decide) (by decide) (by rfl) _ _ (by rfl) w6.heap.size (.slice q7 j k7) j (L.flatMap fmc) (by rfl) HX.out.1 w2.heap.size [.int .i64 f.fn, .int .i64 f.pc, .slice (some ⟨gs, 0, none⟩) f.sl.length f.sl.length, .slice (some ⟨gt, 0, none⟩) f.st.length f.st.length] (by rfl) (one4 _ _ _ _ _ _) (by rfl) HX.out.2.1 HJN.out HX.out.2.2 ?_; intro v5 w5 ho5 hg5; obtain ⟨q5, k5, rfl, -, -⟩ := own_slice ho5.out; obtain ⟨⟨y7, z7⟩, L5, hL5⟩ := HP.out w5 _ ho5.out hg5.out.1; have HL5 : Hid _ := hL5; clear hL5))
    all_goals
      clear c7 e7 x7 y7 z7 dF
      go_wp2_with fail
      exact ⟨⟨j + 1, _, L5, hlt, by go_num, HL5⟩, by simp [intOf]; omega⟩
end Go.Proofs.YtahdkffijlfmnaaGreatDoor

namespace Go.Proofs.YtahdkffijlfmnaaGreatDoor
open Go.RowKit
open Hp (V vc vcs)
theorem setF_setF (S : Ms) (n : Nat) (x y : Fr) : (S.setF n x).setF n y = S.setF n y := by unfold Ms.setF; simp only [List.set_set]
theorem RnG.left {K : Cg} {S : Ms} (h : RnG K S) {n : Nat} (hn : 0 < n) : RnG K (S.left n) := ⟨h.b.left n, h.p, h.t, fun e => by
  have e : S.fs.take n = [] := e
  rcases List.take_eq_nil_iff.1 e with r | r
  · omega
  · exact h.n r⟩
theorem StG.run {K : Cg} {S : Ms} (b : BdG K S) (p : S.ph = 0) (t : S.tr = 0) (n : S.fs ≠ []) : StG K S := ⟨b, .inl ⟨p, t, n⟩⟩
theorem str_len {k n : Int} {s : ByteArray} (h : I64 n) : (Hp.strS k n s).size ≤ 256 := by
  unfold Hp.strS
  split
  · rename_i ho
    split
    · have := Lib.itoa_length_le n h.1 h.2
      show (Lib.itoa n).toArray.size ≤ 256
      simp only [List.size_toArray]
      omega
    · split
      · show (Lib.formatBool (n == 1)).toArray.size ≤ 256
        cases (n == 1) <;> decide
      · split
        · exact Hp.str_size ho
        · decide
  · decide
theorem end_le {K : Cg} (hK : KOk K) (i : Nat) (hi : i < K.Es.length) : K.Es[i].1.start ≤ endM K i := by
  unfold endM
  have hl := hK.len
  split
  · rename_i h1
    have h2 := ((st_get hK.c.st).2 (i + 1) (by rw [← hl]; exact h1)).2 (Nat.succ_pos _)
    rw [Nat.add_sub_cancel, hK.at_ i hi, hK.at_ (i + 1) h1] at h2
    omega
  · have := (hK.start i hi).2
    omega
set_option maxRecDepth 100000 in
theorem op_g {K : Cg} {S : Ms} {n : Nat} {f : Fr} {i : Nat} {hi : i < K.Es.length} {a b : Int} {o : Nat} {r : Ms × Yd} (hK : KOk K) (hfo : FrOk K f) (h : RnG K S) (hf : FrG K S.hp.length f) (hfi : f.fn = (i : Int)) (hm : n = 0 → f.fn = K.c.main) (hn : S.fs.length = n + 1) (hins : insS ((o : Int), a, b) = true) (e : opS K S n f i hi a b o = .ok r) : StG K r.1 := by
  obtain ⟨S', y⟩ := r
  obtain ⟨-, h1, a0, a1, -, -⟩ := ins_rng hins
  rw [Int.toNat_natCast] at a0 a1
  have hcut : RnG K (S.cut n f f.st.dropLast) := h.setF n hf.drop hm
  have hf3 : FrG K S.hp.length { f with st := f.st.dropLast.dropLast } := hf.drop.drop
  have hcut2 : ∀ x, RnG K ((S.setF n x).setF n { f with st := f.st.dropLast.dropLast }) := fun x => by rw [setF_setF]; exact h.setF n hf3 hm
  unfold opS at e
  split at e
  · exact (push_g h hf hm (hv1 _ a) (plain_ok e)).st
  · refine (push_g h hf hm (hv2 _ ?_) (plain_ok e)).st
    have q0 : (0 : Int) ≤ a := by simpa [opA, shLo] using a0
    have q1 : a ≤ 1 := by simpa [opA, shHi] using a1
    omega
  · have e := plain_ok e
    unfold doTextS at e
    split at e
    · refine (push_g h hf hm (hv3 _ ?_) e).st
      have := hK.c.ts _ (List.getElem_mem (by assumption))
      omega
    · cases e
  · have e := plain_ok e
    unfold doLoadS at e
    split at e
    · exact (push_g h hf hm (hf.sl _ (List.getElem_mem _)) e).st
    · cases e
  · have e := plain_ok e
    unfold doStoreS at e
    split at e
    · rename_i hs
      cases e
      obtain ⟨hal, hft⟩ := hs
      unfold fitV at hft
      simp only [Bool.and_eq_true, beq_iff_eq] at hft
      refine (hcut.setF n (f := { f with st := f.st.dropLast, sl := f.sl.set a.toNat (lastV f.st) }) ⟨hf.drop.st, fun v hv => ?_, ?_⟩ hm).st
      · rcases List.mem_or_eq_of_mem_set hv with r | r
        · exact hf.sl v r
        · rw [r]; exact hv_iff.1 hft.2
      · obtain ⟨j, j1, j2, j3, j4, j5⟩ := hf.kd
        obtain rfl : i = j := by omega
        refine ⟨i, j1, j2, ?_, j4, j5⟩
        show (f.sl.set a.toNat (lastV f.st)).map (·.1) = _
        rw [List.map_set, hft.1, j3]
        apply List.ext_getElem?
        intro q
        rw [List.getElem?_set]
        split
        · rename_i eq
          subst eq
          have hl : f.sl.length = K.Es[i].1.sorts.length := by have := congrArg List.length j3; simpa using this
          rw [if_pos (by rw [List.length_map]; omega), List.getElem?_map, List.getD_eq_getElem?_getD, List.getElem?_eq_getElem (by omega)]
          rfl
        · rfl
    · cases e
  · cases e; exact hcut.st
  · exact (pushOr_g hcut hf.drop hm (fun q => un_hv _ _ _ _ _ q) (plain_ok e)).st
  · exact (pushOr_g (hcut2 _) hf3 hm (fun q => bin_hv _ _ _ _ _ _ _ _ q) (plain_ok e)).st
  · have e := plain_ok e
    unfold doJumpS at e
    split at e
    · rename_i hp
      cases e
      unfold inM at hp
      simp only [Bool.and_eq_true, decide_eq_true_eq] at hp
      exact (h.setF n (hf.pc' hi hfi hp.1 (by omega)) hm).st
    · cases e
  · have e := plain_ok e
    unfold doFalseS doJumpS at e
    split at e
    · split at e
      · split at e
        · rename_i hp
          cases e
          unfold inM at hp
          simp only [Bool.and_eq_true, decide_eq_true_eq] at hp
          exact (hcut.setF n (hf.drop.pc' hi hfi hp.1 (by omega)) hm).st
        · cases e
      · cases e; exact hcut.st
    · cases e
  · have e := plain_ok e
    unfold doCallS at e
    split at e
    · rename_i hal
      split at e
      · cases e
      · rename_i hpl
        split at e
        · cases e
        · rename_i hft
          simp only [Bool.not_eq_false] at hft
          split at e
          · cases e
          · cases e
            have hp := hK.ps _ (List.getElem_mem hal)
            have hdl : (f.st.drop (f.st.length - K.Es[a.toNat].1.params.toNat)).length = K.Es[a.toNat].1.params.toNat := by rw [List.length_drop]; omega
            have hc1 : RnG K (S.cut n f (f.st.take (f.st.length - K.Es[a.toNat].1.params.toNat))) := h.setF n (hf.st' fun v hv => hf.st v (List.mem_of_mem_take hv)) hm
            obtain ⟨g1, g2⟩ := fitL_map hft (by rw [hdl]; omega)
            have hss : ∀ s ∈ K.Es[a.toNat].1.sorts, sortS s = true := by
              have : K.Es[a.toNat].1 ∈ K.c.ens := by rw [← hK.en]; exact List.mem_map_of_mem (List.getElem_mem hal)
              exact (ent_ok.1 (hK.c.es _ this)).ss
            obtain ⟨s1, s2⟩ := slots_g hss g1 g2
            refine StG.run ⟨fun x hx => ?_, hc1.b.hp, fun x hx => ?_⟩ hc1.p hc1.t (by simp)
            · rcases List.mem_append.1 hx with r | r
              · exact hc1.b.fr x r
              · rw [List.mem_singleton.1 r]
                exact ⟨fun v hv => (by cases hv), s2, a.toNat, rfl, hal, s1, Int.le_refl _, end_le hK _ hal⟩
            · refine hc1.b.mn x ?_
              have hx : ((S.cut n f (f.st.take (f.st.length - K.Es[a.toNat].1.params.toNat))).fs ++ [_])[0]? = some x := hx
              rw [List.getElem?_append_left (List.length_pos_iff.2 hc1.n)] at hx
              exact hx
    · cases e
  · have e := plain_ok e
    unfold doRetS at e
    split at e
    · cases e
    · rename_i hr
      split at e
      · cases e
      · rename_i fb hfb
        split at e
        · cases e
        · cases e
          have hft : fitV S.hp (lastV f.st) K.Es[i].1.result = true := by
            cases q : fitV S.hp (lastV f.st) K.Es[i].1.result with
            | true => rfl
            | false => exact absurd (.inr (.inl q)) hr
          have hn0 : n ≠ 0 := fun q => hr (.inr (.inr q))
          unfold fitV at hft
          simp only [Bool.and_eq_true, beq_iff_eq] at hft
          have hb := h.b.fr fb (List.mem_of_getElem? hfb)
          refine ((hcut.setF (n - 1) (hb.st' fun v hv => ?_) fun q => ?_).left (by omega)).st
          · rcases List.mem_append.1 hv with r | r
            · exact hb.st v r
            · rw [List.mem_singleton.1 r]; exact hv_iff.1 hft.2
          · rw [q] at hfb
            exact h.b.mn fb hfb
  · have e := plain_ok e
    unfold doDoneS at e
    split at e
    · injection e with e
      have e : _ = S' := e
      rw [← e]
      split
      · rename_i h0
        subst h0
        exact ⟨⟨fun x hx => (by cases hx), h.b.hp, fun x hx => (by cases hx)⟩, .inr (.inl ⟨rfl, h.t, rfl⟩)⟩
      · exact (h.left (by omega)).st
    · cases e
  · have e := plain_ok e
    unfold doNewS at e
    split at e
    · obtain ⟨m1, m2, m3⟩ := make_hv h.b.hp K.lim (kindS a) (lastV f.st).2.1
      exact (pushOr_g (S := (S.cut n f f.st.dropLast).heap (Hp.makeH S.hp K.lim (kindS a) (lastV f.st).2.1).1) ⟨hcut.b.heap m1 m2, hcut.p, hcut.t, hcut.n⟩ (hf.drop.mono m2) hm m3 e).st
    · cases e
  · have e := plain_ok e
    unfold doGetS at e
    split at e
    · exact (pushOr_g (hcut2 _) hf3 hm (fun q => at_hv _ _ _ _ _ _ _ q) e).st
    · split at e
      · exact (pushOr_g (hcut2 _) hf3 hm (fun q => get_hv h.b.hp _ _ q) e).st
      · cases e
  · have e := plain_ok e
    unfold doPutS at e
    split at e
    · split at e
      · cases e
        obtain ⟨m1, m2⟩ := put_hv h.b.hp (lastV f.st.dropLast.dropLast) (lastV f.st.dropLast).2.1 (lastV f.st)
        have hq : RnG K (((S.cut n f (f.st.dropLast.dropLast.dropLast ++ [lastV f.st.dropLast.dropLast] ++ [lastV f.st.dropLast])).cut n { f with st := f.st.dropLast.dropLast.dropLast ++ [lastV f.st.dropLast.dropLast] ++ [lastV f.st.dropLast] } (f.st.dropLast.dropLast.dropLast ++ [lastV f.st.dropLast.dropLast])).cut n { f with st := f.st.dropLast.dropLast.dropLast ++ [lastV f.st.dropLast.dropLast] } f.st.dropLast.dropLast.dropLast) := by
          unfold Ms.cut
          rw [setF_setF, setF_setF]
          exact h.setF n hf3.drop hm
        exact StG.run (hq.b.heap m1 (Nat.le_of_eq m2.symm)) hq.p hq.t hq.n
      · cases e
    · cases e
  · have e := plain_ok e
    unfold doLenS at e
    split at e
    · exact (push_g hcut hf.drop hm (hv1 _ _) e).st
    · exact (pushOr_g hcut hf.drop hm (fun _ => hv1 _ _) e).st
  · have e := plain_ok e
    unfold doStrS at e
    split at e
    · refine (push_g hcut hf.drop hm (hv3 _ (str_len ?_)) e).st
      rcases Nat.eq_zero_or_pos f.st.length with r | r
      · rw [List.eq_nil_of_length_eq_zero r]; exact ⟨by decide, by decide⟩
      · exact (hfo.st _ (last_mem r)).2
    · cases e
  · have e := plain_ok e
    unfold doPrintS at e
    split at e
    · cases e
    · split at e
      · cases e
      · cases e
        have hc1 : RnG K (S.cut n f (f.st.take (f.st.length - a.toNat))) := h.setF n (hf.st' fun v hv => hf.st v (List.mem_of_mem_take hv)) hm
        exact StG.run ⟨hc1.b.fr, hc1.b.hp, hc1.b.mn⟩ hc1.p hc1.t hc1.n
  · have e := plain_ok e
    unfold doReadS at e
    split at e
    · cases hp : doPush S n f (1, K.inp[S.rd], Hp.e0) with
      | error q => rw [hp] at e; cases e
      | ok q =>
        rw [hp] at e
        cases e
        have hc1 := push_g h hf hm (hv1 _ _) hp
        exact StG.run ⟨hc1.b.fr, hc1.b.hp, hc1.b.mn⟩ hc1.p hc1.t hc1.n
    · cases e
  · cases e; exact h.st
  · split at e
    · cases e; exact h.st
    · cases e
  · cases e; exact h.st
  · cases e; exact h.st
theorem next_g {K : Cg} {S : Ms} {r : Ms × Yd} (hK : KOk K) (hO : StOk K S) (h : RnG K S) (e : mnextS K S = .ok r) : StG K r.1 := by
  unfold mnextS at e
  split at e
  · cases e
  · rename_i f hl
    have hmem : f ∈ S.fs := List.mem_of_getLast? hl
    have hpos := List.length_pos_of_mem hmem
    split at e
    · rename_i hi
      split at e
      · rename_i hp
        split at e
        · cases e
        · obtain ⟨p, h1, h2⟩ := hK.rng _ hi hp
          have hgd : K.c.ins.getD f.pc.toNat (0, 0, 0) = K.c.ins[p] := by rw [h1, Int.toNat_natCast, List.getD_eq_getElem?_getD, List.getElem?_eq_getElem h2]; rfl
          have hins := hK.c.is _ (List.getElem_mem h2)
          rw [hgd] at e
          obtain ⟨h0, -⟩ := ins_rng (op := K.c.ins[p].1) (a := K.c.ins[p].2.1) (b := K.c.ins[p].2.2) hins
          have hff := h.b.fr f hmem
          have hfo := hO.fr f hmem
          obtain ⟨j, j1, j2, -⟩ := hff.kd
          have hfi : f.fn = ((f.fn.toNat : Nat) : Int) := by omega
          unfold inM at hp
          simp only [Bool.and_eq_true, decide_eq_true_eq] at hp
          have hff2 := hff.pc' hi hfi (p := f.pc + 1) (by omega) (by omega)
          have hm : S.fs.length - 1 = 0 → f.fn = K.c.main := fun q => by
            refine h.b.mn f ?_
            rw [List.getLast?_eq_getElem?, q] at hl
            exact hl
          have hR := h.setF (S.fs.length - 1) (f := { f with pc := f.pc + 1 }) hff2 hm
          exact op_g hK (hfo.pc' _) hR hff2 hfi hm (by show (S.fs.set _ _).length = _; rw [List.length_set]; omega) (by rw [Int.toNat_of_nonneg h0]; exact hins) e
      · cases e
    · cases e
theorem step_g {K : Cg} {S : Ms} (hK : KOk K) (hO : StOk K S) (h : StG K S) : StG K (mstepS K S).1 := by
  unfold mstepS
  split
  · rename_i hc
    have h0 := hO.s0
    have h1 := hO.s1
    have hs : StOk K { S with steps := min (S.steps + 1) 4611686018427387904 } := ⟨hO.fr, hO.hp, hO.rd, hO.dp, by show 0 ≤ min (S.steps + 1) 4611686018427387904; omega, by show min (S.steps + 1) 4611686018427387904 ≤ _; omega⟩
    have ht : S.tr = 0 := by
      rcases h.ph with q | q | q
      · exact q.2.1
      · have := q.1; have := hc.1; omega
      · have := q.1; have := hc.1; omega
    have hr : RnG K { S with steps := min (S.steps + 1) 4611686018427387904 } := ⟨⟨h.b.fr, h.b.hp, h.b.mn⟩, hc.1, ht, hc.2⟩
    cases e : mnextS K { S with steps := min (S.steps + 1) 4611686018427387904 } with
    | error t => exact ⟨⟨h.b.fr, h.b.hp, h.b.mn⟩, .inr (.inr ⟨rfl, next_tr e, hc.2⟩)⟩
    | ok r => exact next_g hK hs hr e
  · exact h
theorem new_g {K : Cg} (hK : KOk K) : StG K (msN (enAt K.c.ens K.c.main.toNat) K.c.main) := by
  have hm0 := hK.c.m0
  have hml := hK.c.ml
  have hi : K.c.main.toNat < K.Es.length := by rw [hK.len]; omega
  rw [hK.at_ _ hi]
  have hss : ∀ s ∈ K.Es[K.c.main.toNat].1.sorts, sortS s = true := by
    have : K.Es[K.c.main.toNat].1 ∈ K.c.ens := by rw [← hK.en]; exact List.mem_map_of_mem (List.getElem_mem hi)
    exact (ent_ok.1 (hK.c.es _ this)).ss
  obtain ⟨s1, s2⟩ := slots_g (n := 0) (args := []) hss rfl (fun v hv => by cases hv)
  refine ⟨⟨fun f hf => ?_, fun a ha => (by cases ha), fun f hf => ?_⟩, .inl ⟨rfl, rfl, by simp [msN]⟩⟩
  · have hf : f ∈ [(⟨K.c.main, K.Es[K.c.main.toNat].1.start, slotsS K.Es[K.c.main.toNat].1.sorts [], []⟩ : Fr)] := hf
    rw [List.mem_singleton.1 hf]
    exact ⟨fun v hv => (by cases hv), s2, K.c.main.toNat, by show K.c.main = _; omega, hi, s1, Int.le_refl _, end_le hK _ hi⟩
  · have hf : some _ = some f := hf
    cases hf
    rfl
end Go.Proofs.YtahdkffijlfmnaaGreatDoor

namespace Go.Proofs.YtahdkffijlfmnaaGreatDoor
open Go.RowKit
open Hp (V vc vcs)
theorem row_cells {w : World} {q : Option Addr} {n c : Nat} {vs : List V} (h : OwnR w 52 3 (.slice q n c) n (vcs vs)) (hn : vs.length = n) : ∀ i (_ : i < vs.length), ∃ b, q = some ⟨b, 0, none⟩ ∧ w.cell? ⟨b, i * 3, none⟩ = some (.int .i64 vs[i].1) ∧ w.cell? ⟨b, i * 3 + 1, none⟩ = some (.int .i64 vs[i].2.1) ∧ w.cell? ⟨b, i * 3 + 2, none⟩ = some (.string vs[i].2.2) := fun i hi => by
  obtain ⟨q', c', e, -, hq⟩ := rown_slice h
  cases e
  obtain ⟨b, rfl, hr⟩ := hq (by omega)
  have er := Hp.vcs_get hr i hi
  rw [Nat.zero_add] at er
  exact ⟨b, rfl, er 0 _ rfl, er 1 _ rfl, er 2 _ rfl⟩
set_option maxRecDepth 100000 in
set_option maxHeartbeats 2000000 in
theorem mayStand_any {w : World} {g : Nat} {K : Cg} {S : Ms} {L : List Fm} {fv ov : Value} {F Q : Nat → Prop} (h : MachM w g K S L fv ov F Q) (hK : KOk K) (hS : StOk K S) (hG : StG K S) :
    Calls Tryz.prog 42 #[.pointer (some ⟨g, 0, none⟩)] w fun z w' => z = .returned (.bool true) ∧ Below w.heap.size w w' := by
  have hLl : L.length = S.fs.length := by rw [← h.abs, List.length_map]
  obtain ⟨fq, fcap, hfv, -, -⟩ := rown_slice h.fr
  subst hfv
  have HM : Hid (∀ W, Below w.heap.size w W → MachM W g K S L (.slice fq L.length fcap) ov F Q) := fun W b => h.next b
  have c15 := h.k15
  have c16 := h.k16
  have c7 := h.k7
  have hA : ((S.ph == 2) != (S.tr != 0)) = false := by
    rcases hG.ph with ⟨a, b, -⟩ | ⟨a, b, -⟩ | ⟨a, b, -⟩
    · rw [a, b]; rfl
    · rw [a, b]; rfl
    · have : (S.tr != 0) = true := by simp; have := b.1; omega
      rw [a, this]; rfl
  have hB : ((S.ph == 1) != ((L.length : Int) == 0)) = false := by
    rw [hLl]
    rcases hG.ph with ⟨a, -, b⟩ | ⟨a, -, b⟩ | ⟨a, -, b⟩
    · have : ((S.fs.length : Int) == 0) = false := by simp; exact b
      rw [a, this]; rfl
    · rw [a, b]; rfl
    · have : ((S.fs.length : Int) == 0) = false := by simp; exact b
      rw [a, this]; rfl
  have hA1 : (S.ph == 2) = (S.tr != 0) := by
    revert hA
    cases (S.ph == 2) <;> cases (S.tr != 0) <;> simp
  have hB1 : (!((S.ph == 1) == ((L.length : Int) == 0))) = false := hB
  clear hA hB
  have HLL : Hid (L.length = S.fs.length) := hLl
  have HN : Hid (L.length ≤ 1000) := by show L.length ≤ 1000; rw [hLl]; have := hS.dp; have := hK.d2; omega
  have HKS : Hid (KOk K ∧ StOk K S ∧ StG K S) := ⟨hK, hS, hG⟩
  clear h hK hS hG hLl
  go_enter Tryz.func42, Tryz.ntmps42
  go_wp2_with fail
  have y15 := cell_regrown c15
  clear c15 c16 c7
  refine wp_region_quiet_below (by kernel_rfl) (by kernel_rfl) ?_
  repeat (first | go_big_quiet_step (first | fail) | quiet_step (first | fail))
  refine wpQuiet_nil ?_
  intro _ hw'
  obtain ⟨⟨dq, osq⟩, hw''⟩ := hw'
  subst hw''
  have hY := below_regrown w dq osq
  first | (change Exit.then _ _ Exit.normal _ (Sort.grow (redrawn w dq) osq)) | skip
  generalize Sort.grow (redrawn w dq) osq = Y at hY ⊢
  clear y15
  have c16 := (HM.out Y hY).k16
  have c7 := (HM.out Y hY).k7
  have HY : Hid (Below w.heap.size w Y) := hY
  clear hY
  go_wp2_with fail
  clear c16 c7 hA1 hB1
  go_loopw [44] (fun v wr => ∃ j : Nat, j ≤ L.length ∧ v = .int .i64 (j : Int) ∧ Hid (Below w.heap.size w wr)) (fun v _ => L.length - (intOf v).toNat)
  case atStart => exact ⟨0, Nat.zero_le _, rfl, HY⟩
  case round =>
    clear HY
    obtain ⟨j, hj, rfl, hB⟩ := hrel
    have j0 : (0 : Int) ≤ (j : Int) := Int.natCast_nonneg _
    have j9 : j ≤ 1000 := by have := HN.out; omega
    by_cases hlt : j < L.length
    case neg =>
      obtain rfl : j = L.length := by omega
      go_wp2
      go_ret
      exact ⟨rfl, hB.out⟩
    have j1 : (j : Int) < (L.length : Int) := Int.ofNat_lt.2 hlt
    obtain ⟨m, hme⟩ : ∃ m, L[j] = m := ⟨_, rfl⟩
    have hm : L[j]? = some m := by rw [List.getElem?_eq_getElem hlt, hme]
    have hml : m ∈ L := List.mem_of_getElem? hm
    have hMr := HM.out wr hB.out
    have hmf : S.fs[j]? = some m.f := by rw [← hMr.abs, List.getElem?_map, hm]; rfl
    have hmf2 : m.f ∈ S.fs := List.mem_of_getElem? hmf
    have hFo := HKS.out.2.1.fr m.f hmf2
    have hFg := HKS.out.2.2.b.fr m.f hmf2
    obtain ⟨i, hfi, hi, hkd, -, -⟩ := hFg.kd
    have hsl : m.f.sl.length = K.Es[i].1.sorts.length := by have := congrArg List.length hkd; simpa using this
    have h60 : K.Es.length ≤ 60 := by rw [HKS.out.1.len]; exact HKS.out.1.c.el
    obtain ⟨sq, sc, esv, -, -⟩ := rown_slice (hMr.rows m hml).1
    obtain ⟨tq, tc, etv, -, -⟩ := rown_slice (hMr.rows m hml).2
    obtain ⟨gf, cap, hfe, -, hfc, -⟩ := hMr.fc (by omega)
    obtain ⟨r0, r1, r2, r3⟩ := hfc j m hm
    rw [esv] at r2
    rw [etv] at r3
    rw [hfi] at r0
    cases hfe
    obtain ⟨ge, oe, he, -, e0, e1, e2, e3, e4⟩ := hMr.code.ent i hi
    obtain ⟨E, hEE⟩ : ∃ E, K.Es[i] = E := ⟨_, rfl⟩
    have HEE : Hid (K.Es[i] = E) := hEE
    rw [hEE] at e3 hsl hkd
    have hss := hMr.code.sr E (by rw [← hEE]; exact List.getElem_mem hi)
    have hNN : E.1.sorts.length ≤ 250 := by
      have := (HKS.out.1.ps K.Es[i] (List.getElem_mem hi)).2.2.2
      rw [hEE] at this
      exact this
    have i0 : (0 : Int) ≤ (i : Int) := Int.natCast_nonneg _
    obtain ⟨ne, hne⟩ : ∃ ne, K.Es.length = ne := ⟨_, rfl⟩
    have i1 : (i : Int) < (ne : Int) := by omega
    have hmain : j = 0 → (i : Int) = K.c.main := fun q => by
      subst q
      have := HKS.out.2.2.b.mn m.f hmf
      omega
    obtain ⟨X, hX⟩ : ∃ X, wr.alloc (.cells #[.int .i64 (i : Int), .int .i64 m.f.pc, .slice sq m.f.sl.length sc, .slice tq m.f.st.length tc] 89) = X := ⟨_, rfl⟩
    have bX : Below wr.heap.size wr X := by rw [← hX]; exact (Below.refl _ wr).alloc (Nat.le_refl _) _
    have fX : Full X wr.heap.size 89 [.int .i64 (i : Int), .int .i64 m.f.pc, .slice sq m.f.sl.length sc, .slice tq m.f.st.length tc] := by rw [← hX]; exact Full.new wr _ _
    have HBX : Hid (Below w.heap.size w X) := below2 hB.out bX
    have HCX : Hid (∀ W, Below X.heap.size X W → (W.cell? ⟨wr.heap.size, 0, none⟩ = some (.int .i64 (i : Int)) ∧ W.cell? ⟨wr.heap.size, 2, none⟩ = some (.slice sq m.f.sl.length sc) ∧ W.cell? ⟨wr.heap.size, 3, none⟩ = some (.slice tq m.f.st.length tc)) ∧ W.cell? ⟨g, 3, none⟩ = some (.int .i64 K.c.main) ∧ W.cell? ⟨g, 1, none⟩ = some (.slice (some ⟨ge, oe, none⟩) ne K.ea) ∧ W.cell? ⟨ge, oe + i * 5 + 3, none⟩ = some (.slice E.2.1 E.1.sorts.length E.2.2)) := fun W hW => by
      have f := fX.next hW
      have hMW := HM.out W (below2 HBX.out hW)
      have k1 := hMW.k1
      rw [← hMW.code.len, he, hne] at k1
      exact ⟨⟨(f.cell 0 _ rfl).1, (f.cell 2 _ rfl).1, (f.cell 3 _ rfl).1⟩, hMW.k3, k1, ((below2 bX hW).cell (p := ⟨ge, _, none⟩) (block_lt_of_cell e3)).trans e3⟩
    have HFA : Hid (∀ W, Below X.heap.size X W → Calls Tryz.prog 65 #[.pointer (some ⟨g, 0, none⟩), .slice sq m.f.sl.length sc, .slice E.2.1 E.1.sorts.length E.2.2] W fun z w' => z = .returned (.bool true) ∧ Below W.heap.size W w') := fun W hW => by
      have hMW := HM.out W (below2 HBX.out hW)
      have hrow := (hMW.rows m hml).1
      rw [esv] at hrow
      have hsr := hMW.code.sr E (by rw [← HEE.out]; exact List.getElem_mem hi)
      have hfl : fitL S.hp m.f.sl E.1.sorts 0 = true := map_fitL hkd hFg.sl
      have q := fitAll_any (A := S.hp) (vs := m.f.sl) (so := E.1.sorts) (q := sq) (q2 := E.2.1) (cp := sc) (cp2 := E.2.2) (w := W) (g := g) (by omega) (by omega) (fun k hk => by
        obtain ⟨b, hb1, hb2, hb3, hb4⟩ := row_cells hrow rfl k hk
        exact ⟨b, 0, hb1, by rw [Nat.zero_add]; exact hb2, by rw [Nat.zero_add]; exact hb3, by rw [Nat.zero_add]; exact hb4⟩) (fun k hk => by
        obtain ⟨b, o, r1, -, r3⟩ := hsr (by omega)
        refine ⟨b, o, r1, r3 k _ ?_⟩
        unfold sv
        rw [List.getElem?_map, List.getElem?_eq_getElem hk]
        rfl) (fun w' hb' v hv s => mfits_any (hMW.next hb') v s (by have := (hFo.sl v hv).1; omega))
      rw [hfl] at q
      exact q
    have HMN : Hid (j = 0 → (i : Int) = K.c.main) := hmain
    have HST : Hid (∀ v ∈ m.f.st, haveS S.hp v = true ∧ v.2.2.size ≤ 256) := fun v hv => ⟨hv_iff.2 (hFg.st v hv), (hFo.st v hv).1⟩
    have h400 := hFo.ln
    clear hMr hss e0 e1 e2 e3 e4 hmain hFo hFg hkd hsl hEE hme hm hmf hmf2 hfc hne hfi
    go_wp2_with fail
    have cF : ∀ e os, Calls Tryz.prog 65 #[.pointer (some ⟨g, 0, none⟩), .slice sq m.f.sl.length sc, .slice E.2.1 E.1.sorts.length E.2.2] (Sort.grow (redrawn X e) os) fun e w'' => e = .returned (.bool true) ∧ ∃ z : Regrown, w'' = Sort.grow (redrawn X z.d) z.os := fun e os => Calls.regrown_of (HFA.out _ (below_regrown X e os))
    obtain ⟨⟨a0, a2, a3⟩, a4, a5, a6⟩ := HCX.out X (Below.refl _ _)
    have y0 := cell_regrown a0
    have y2 := cell_regrown a2
    have y4 := cell_regrown a4
    have y5 := cell_regrown a5
    have y6 := cell_regrown a6
    clear a0 a2 a3 a4 a5 a6 r0 r1 r2 r3 fX hX
    go_cut [0, 6, 42, 43, 44, 77] (fun u0 u6 u42 u43 u44 u77 wx => u0 = .pointer (some ⟨g, 0, none⟩) ∧ u6 = .pointer (some ⟨wr.heap.size, 0, none⟩) ∧ u42 = .slice (some ⟨gf, 0, none⟩) L.length fcap ∧ u43 = .int .i64 (L.length : Int) ∧ u44 = .int .i64 (j : Int) ∧ u77 = .bool false ∧ Hid (Below X.heap.size X wx))
    case first =>
      by_cases hj0 : j = 0
      · subst hj0
        have gm : ((i : Int) != K.c.main) = false := by rw [HMN.out rfl]; simp
        refine wp_region_quiet_below (by kernel_rfl) (by kernel_rfl) ?_
        repeat (first | go_big_quiet_step (first | with_reducible exact cF _ _) | quiet_step (first | with_reducible exact cF _ _))
        refine wpQuiet_nil ?_
        intro _ hw'
        obtain ⟨⟨dq2, osq2⟩, hw''⟩ := hw'
        subst hw''
        have hZ := below_regrown X dq2 osq2
        first | (change Exit.then _ _ Exit.normal _ (Sort.grow (redrawn X dq2) osq2)) | skip
        generalize Sort.grow (redrawn X dq2) osq2 = Z at hZ ⊢
        clear cF
        go_wp2_with fail
        go_meet
        exact ⟨rfl, rfl, rfl, rfl, rfl, rfl, hZ⟩
      · have gj : ((j : Int) == 0) = false := by simp; exact hj0
        refine wp_region_quiet_below (by kernel_rfl) (by kernel_rfl) ?_
        repeat (first | go_big_quiet_step (first | with_reducible exact cF _ _) | quiet_step (first | with_reducible exact cF _ _))
        refine wpQuiet_nil ?_
        intro _ hw'
        obtain ⟨⟨dq2, osq2⟩, hw''⟩ := hw'
        subst hw''
        have hZ := below_regrown X dq2 osq2
        first | (change Exit.then _ _ Exit.normal _ (Sort.grow (redrawn X dq2) osq2)) | skip
        generalize Sort.grow (redrawn X dq2) osq2 = Z at hZ ⊢
        clear cF
        go_wp2_with fail
        go_meet
        exact ⟨rfl, rfl, rfl, rfl, rfl, rfl, hZ⟩
    case rest =>
      obtain ⟨rfl, rfl, rfl, rfl, rfl, rfl, hC⟩ := hcut
      obtain ⟨⟨a0, a2, a3⟩, -⟩ := HCX.out wc hC.out
      have HBC : Hid (Below w.heap.size w wc) := below2 HBX.out hC.out
      clear y0 y2 y4 y5 y6 cF
      go_wp2_with fail
      clear a0 a2 a3
      obtain ⟨N, hN⟩ : ∃ N, m.f.st.length = N := ⟨_, rfl⟩
      have HNN : Hid (m.f.st.length = N) := hN
      rw [hN] at h400 etv ⊢
      clear hN
      have HETV : Hid (m.tv = .slice tq N tc) := etv
      clear etv esv
      go_loopw [81] (fun v wv => ∃ k : Nat, k ≤ N ∧ v = .int .i64 (k : Int) ∧ Hid (Below w.heap.size w wv)) (fun v _ => N - (intOf v).toNat)
      case atStart => exact ⟨0, Nat.zero_le _, rfl, HBC⟩
      case round =>
        clear HBC hC
        obtain ⟨k, hk, rfl, hBv⟩ := hrel
        have k0 : (0 : Int) ≤ (k : Int) := Int.natCast_nonneg _
        by_cases hkl : k < N
        case neg =>
          obtain rfl : k = N := by omega
          go_wp2
          exact ⟨⟨j + 1, hlt, by go_num, hBv⟩, by simp [intOf]; omega⟩
        have k1 : (k : Int) < (N : Int) := Int.ofNat_lt.2 hkl
        have hMv := HM.out _ hBv.out
        have hrow := (hMv.rows m hml).2
        rw [HETV.out, HNN.out] at hrow
        have hkl2 : k < m.f.st.length := by rw [HNN.out]; exact hkl
        obtain ⟨b, hb1, hb2, hb3, hb4⟩ := row_cells hrow HNN.out k hkl2
        have hst := HST.out m.f.st[k] (List.getElem_mem hkl2)
        generalize m.f.st[k] = y at hb2 hb3 hb4 hst
        obtain ⟨vk, vn, vs⟩ := y
        subst hb1
        have nb : Below wr.heap.size wr (wr.alloc (.cells #[.int .i64 vk, .int .i64 vn, .string vs] 52)) := (Below.refl _ wr).alloc (Nat.le_refl _) _
        obtain ⟨⟨⟨p0, -⟩, ⟨p1, -⟩⟩, p2, -⟩ := Box3.new wr vk vn vs 52
        have dM := mayHave_any (HM.out _ (below2 hBv.out nb)) (vk, vn, vs) (by have := hst.2; omega)
        rw [hst.1] at dM
        have HNB : Hid _ := nb
        clear hMv hrow hst nb
        go_wp2_with (first
          | (go_at_call 66; (with_reducible refine dM.mono ?_); rintro z5 w5 ⟨rfl, hb5⟩; have HB5 : Hid (Below w.heap.size w w5) := below2 (below2 hBv.out HNB.out) hb5; clear hb5 dM)
          | go_in)
        exact ⟨⟨k + 1, hkl, by go_num, HB5⟩, by simp [intOf]; omega⟩
end Go.Proofs.YtahdkffijlfmnaaGreatDoor
