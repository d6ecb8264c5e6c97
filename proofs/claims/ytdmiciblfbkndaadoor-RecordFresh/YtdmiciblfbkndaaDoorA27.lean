import Derived.Test.YtdmiciblfbkndaaDoorA23
import Derived.Test.YtdmiciblfbkndaaDoorA24
import Derived.Test.YtdmiciblfbkndaaDoorA26
import Derived.Test.YtdmiciblfbkndaaDoorA02
import Derived.Test.YtdmiciblfbkndaaDoorA19
namespace Go.Proofs.YtdmiciblfbkndaaDoor
open Go.RowKit Go.Shelf
attribute [local go_sem] Oper.semAt_some

/-- Where Encode stands in its loop. -/
structure EnI (W : World) (R P B : Nat) (rcv : List Value) (q : Option Addr) (n cap : Nat) (D : List UInt8) (wr : World) : Prop where
  i : IsB P P D wr
  r : Full wr R 28 rcv
  s : Full wr B 26 [.slice q n cap]
  k : Full wr (B + 1) 3 [.int .i64 64]
  bel : Below W.heap.size W wr
theorem EnI.own {W : World} {R P B C : Nat} {rcv : List Value} {q : Option Addr} {n cap : Nat} {D : List UInt8} {a b : World} {row : Option Nat} (h : EnI W R P B rcv q n cap D a) (hg : a.grownBy b row) (hB : W.heap.size ≤ C) (hr : ∀ r, row = some r → C ≤ r ∧ ∃ o : Obj, a.heap[r]? = some o ∧ o.isCells = false) : EnI W R P B rcv q n cap D b :=
  ⟨h.i.grown hg fun r e => (hr r e).2, full_grown h.r hg fun r e => (hr r e).2, full_grown h.s hg fun r e => (hr r e).2, full_grown h.k hg fun r e => (hr r e).2, h.bel.grown hg h.bel.size fun k e => Nat.le_trans hB (hr k e).1⟩
theorem EnI.next {W : World} {R P B : Nat} {rcv : List Value} {q : Option Addr} {n cap : Nat} {D : List UInt8} {a b : World} (h : EnI W R P B rcv q n cap D a) (k : Below a.heap.size a b) : EnI W R P B rcv q n cap D b :=
  ⟨h.i.next k, h.r.next k, h.s.next k, h.k.next k, h.bel.trans (k.mono h.bel.size)⟩
theorem EnI.write {W : World} {R P B : Nat} {rcv : List Value} {q : Option Addr} {n cap : Nat} {D D' : List UInt8} {a b : World} (h : EnI W R P B rcv q n cap D a) (hR : R < P) (hB : P < B) (hW : W.heap.size ≤ P) (q1 : IsB P P D' b ∧ Below P a b ∧ OthB P a b) : EnI W R P B rcv q n cap D' b :=
  ⟨q1.1, q1.2.2.full h.r (by omega) (by decide), q1.2.2.full h.s (by omega) (by decide), q1.2.2.full h.k (by omega) (by decide), h.bel.trans (q1.2.1.mono hW)⟩
/-- The temporaries behind the iterator's making. -/
def enT (ph tr : Int) (out : ByteArray) (inp : Int) (q : Option Addr) (n cap R P B : Nat) (v u w : Value) : Array Value := #[.agg #[.int .i64 ph, .int .i64 tr, .string out, .int .i64 inp, .slice q n cap], .pointer (some ⟨R, 0, none⟩), .string ⟨#[]⟩, .int .i64 0, .pointer (some ⟨P, 0, none⟩), u, .pointer (some ⟨R, 4, none⟩), .slice q n cap, .int .i64 (n : Int), .bool (decide (1048576 < (n : Int))), .bool (decide (1048576 < (n : Int))), .pointer (some ⟨R, 2, none⟩), .string out, .int .i64 (out.size : Int), .bool (decide (16777216 < (out.size : Int))), .bool (decide (1048576 < (n : Int)) || decide (16777216 < (out.size : Int))), .agg #[.int .i64 ph, .int .i64 tr, .string out, .int .i64 inp, .slice q n cap], .bool true, .bool false, .bool false, .pointer (some ⟨R, 4, none⟩), .slice q n cap, .bool true, .bool false, .bool false, v, .pointer (some ⟨R, 4, none⟩), .slice q n cap, .func (.func 53) #[] #[.pointer (some ⟨B, 0, none⟩), .pointer (some ⟨B + 1, 0, none⟩)], w, undef, undef, undef, undef, undef, undef, undef, undef, undef]
set_option maxRecDepth 100000 in
set_option maxHeartbeats 4000000 in
theorem encode_good (W : World) (ph tr : Int) (out : ByteArray) (inp : Int) (q : Option Addr) (cap : Nat) (L : List Ev) (hT : SumT W) (hI : RcIn W q cap L) (h1 : L.length ≤ 1048576) (h2 : out.size ≤ 16777216) (h3 : endOk ph tr inp = true) (h4 : L.all evOk = true) :
    Calls Tryd.prog 20 #[.agg (recC ph tr out inp q L.length cap)] W (EncP W ph tr out inp L) := by
  have HV : Hid (encS ⟨ph, tr, out.data.toList, inp, L⟩ = (fileL ⟨ph, tr, out.data.toList, inp, L⟩, 0)) := enc_of h4 h1 (by rw [← Lib.size_eq]; exact h2) h3
  obtain ⟨X1, hX1⟩ : ∃ X, W.alloc (.cells (recC ph tr out inp q L.length cap) 28) = X := ⟨_, rfl⟩
  obtain ⟨R, hR⟩ : ∃ R, W.heap.size = R := ⟨_, rfl⟩
  have b1 : Below W.heap.size W X1 := by rw [← hX1]; exact (Below.refl _ W).alloc (Nat.le_refl _) _
  have f1 : Full X1 R 28 [.int .i64 ph, .int .i64 tr, .string out, .int .i64 inp, .slice q L.length cap] := by rw [← hX1, ← hR]; exact Full.new W _ _
  have HE := end_any X1 ph tr out inp q L.length cap
  have HM : ∀ w2, Below X1.heap.size X1 w2 → Calls Tryd.prog 32 #[.slice q L.length cap] w2 fun e w' => e = .returned (.bool (L.all evOk)) ∧ Below w2.heap.size w2 w' := fun w2 hb2 =>
    evm_any w2 q cap L ((hI.row.below b1 (Nat.le_refl _)).below (hb2.mono b1.size) (Nat.le_refl _) |>.up (Nat.le_trans b1.size hb2.size)) hI.sz hI.most
  have HLast : ∀ wr, Calls Tryd.prog 37 #[.agg (recC ph tr out inp q L.length cap)] wr fun e w' => e = .returned (.string ⟨(lastL ⟨ph, tr, out.data.toList, inp, L⟩).toArray⟩) ∧ Below wr.heap.size wr w' := fun wr => last_any wr ph tr out inp q L.length cap L rfl (by omega) h3 (by omega)
  obtain ⟨g, o, hgo⟩ : ∃ g o, 0 < L.length → q = some ⟨g, o, none⟩ ∧ g < W.heap.size ∧ W.rangeAt g o (L.flatMap ec) := by
    rcases Nat.eq_zero_or_pos L.length with h | h
    · exact ⟨0, 0, fun k => by omega⟩
    · obtain ⟨g, o, k1, k2, k3⟩ := hI.row h
      exact ⟨g, o, fun _ => ⟨k1, k2, k3⟩⟩
  have hcap := hI.cap
  have hvn := hI.vn
  rw [h3] at HE
  rw [h4] at HM
  unfold recC at hX1 HE HLast ⊢
  obtain ⟨n, hn⟩ : ∃ n, L.length = n := ⟨_, rfl⟩
  rw [hn] at hX1 HE f1 h1 hcap ⊢
  simp only [hn] at HM HLast
  have H1 : Hid (Below W.heap.size W X1 ∧ Full X1 R 28 [.int .i64 ph, .int .i64 tr, .string out, .int .i64 inp, .slice q n cap] ∧ W.heap.size = R) := ⟨b1, f1, hR⟩
  have HL : Hid (L.length = n ∧ n ≤ 1048576 ∧ L.all evOk = true ∧ (∀ e ∈ L, -9223372036854775808 ≤ e.vn ∧ e.vn ≤ 9223372036854775807) ∧ n ≤ cap ∧ out.size ≤ 16777216) := ⟨hn, h1, h4, hvn, hcap, h2⟩
  have HGO : Hid (0 < L.length → q = some ⟨g, o, none⟩ ∧ g < W.heap.size ∧ W.rangeAt g o (L.flatMap ec)) := hgo
  have HT : Hid (SumT W) := hT
  have q1 : (n : Int) ≤ 1048576 := by omega
  have q2 : (out.size : Int) ≤ 16777216 := by omega
  obtain ⟨⟨⟨r0, -⟩, ⟨r1, -⟩, r2, -⟩, ⟨r3, -⟩, r4, -⟩ := f1.five2
  have HMh : Hid (∀ w2, Below X1.heap.size X1 w2 → Calls Tryd.prog 32 #[.slice q n cap] w2 fun e w' => e = .returned (.bool true) ∧ Below w2.heap.size w2 w') := HM
  have HLastH : Hid (∀ wr, Calls Tryd.prog 37 #[.agg #[.int .i64 ph, .int .i64 tr, .string out, .int .i64 inp, .slice q n cap]] wr fun e w' => e = .returned (.string ⟨(lastL ⟨ph, tr, out.data.toList, inp, L⟩).toArray⟩) ∧ Below wr.heap.size wr w') := HLast
  clear b1 f1 hI h1 h2 h3 h4 hn HM HLast hgo hcap hvn hT
  refine (callsIn_wide (n := 6)).1 ?_
  refine callsIn_of_wp_marks Tryd.func20 rfl trivial ?_ rfl
  simp only [Tryd.ntmps20, List.size_toArray, List.length_cons, List.length_nil, Nat.reduceAdd, Nat.reduceSub, Array.replicate_succ, Array.replicate_zero, List.push_toArray, List.append_toArray, List.nil_append, List.cons_append]
  gi_wp2_with fail
  refine ⟨trivial, (callsIn_wide.2 HE).mono ?_⟩
  rintro e w2 ⟨rfl, hb2⟩
  have HM := HMh.out w2 hb2
  have f2 := H1.out.2.1.next hb2
  have H2 : Hid (Below W.heap.size W w2 ∧ Full w2 R 28 [.int .i64 ph, .int .i64 tr, .string out, .int .i64 inp, .slice q n cap]) := ⟨H1.out.1.trans (hb2.mono H1.out.1.size), f2⟩
  clear HE hb2 r0 r1 r2 r3 r4 HMh
  obtain ⟨-, -, r4, -⟩ := f2.five2
  clear f2
  gi_wp2_with fail
  refine ⟨trivial, (callsIn_wide.2 HM).mono ?_⟩
  rintro e w3 ⟨rfl, hb3⟩
  obtain ⟨X4, hX4⟩ : ∃ X, w3.alloc (.cells #[.pointer none, .slice none 0 0] 77) = X := ⟨_, rfl⟩
  obtain ⟨P, hP⟩ : ∃ P, w3.heap.size = P := ⟨_, rfl⟩
  have nb : Below w3.heap.size w3 X4 := by rw [← hX4]; exact (Below.refl _ _).alloc (Nat.le_refl _) _
  have i4 : IsB P P [] X4 := by rw [← hX4, ← hP]; exact Lib.fresh_isBuilder 77 5 w3
  have z4 : X4.heap.size = P + 1 := by rw [← hX4, World.size_alloc, hP]
  have f4 := (H2.out.2.next hb3).next nb
  have b4 : Below W.heap.size W X4 := (H2.out.1.trans (hb3.mono H2.out.1.size)).trans (nb.mono (Nat.le_trans H2.out.1.size hb3.size))
  have hRP : R < P := by rw [← hP]; exact (H2.out.2.next hb3).lt
  have HWr := bw_any (⟨#[82, 1]⟩ : ByteArray) i4 (by decide) (by omega)
  have H4 : Hid (Full X4 R 28 [.int .i64 ph, .int .i64 tr, .string out, .int .i64 inp, .slice q n cap] ∧ Below W.heap.size W X4 ∧ R < P ∧ X4.heap.size = P + 1) := ⟨f4, b4, hRP, z4⟩
  clear HM hb3 r4 nb i4 z4 f4 b4 hRP H2
  gi_wp2_with fail
  refine ⟨trivial, (callsIn_wide.2 HWr).mono ?_⟩
  rintro e w5 ⟨⟨v, rfl⟩, hq5⟩
  have f5 := hq5.out.2.2.full H4.out.1 (by have := H4.out.2.2.1; omega) (by decide)
  obtain ⟨B, hB⟩ : ∃ B, w5.heap.size = B := ⟨_, rfl⟩
  have hPB : P < B := by have h1 := hq5.out.2.1.size; have h2 := H4.out.2.2.2; omega
  have H5 : Hid (IsB P P [82, 1] w5 ∧ Full w5 R 28 [.int .i64 ph, .int .i64 tr, .string out, .int .i64 inp, .slice q n cap] ∧ Below W.heap.size W w5 ∧ R < P ∧ P < B ∧ W.heap.size ≤ P) := by
    have hWP : W.heap.size ≤ P := by have := H4.out.2.2.1; have := H1.out.2.2; omega
    exact ⟨hq5.out.1, f5, H4.out.2.1.trans (hq5.out.2.1.mono hWP), H4.out.2.2.1, hPB, hWP⟩
  have HCh := chunks_any q n cap w5
  rw [hB] at HCh
  obtain ⟨-, -, r4, -⟩ := f5.five2
  clear hq5 f5 hPB HWr H4 hX4 hP
  gi_wp2_with fail
  refine ⟨trivial, (callsIn_wide.2 HCh).mono ?_⟩
  rintro e w6 ⟨rfl, hw6⟩
  clear HCh r4
  gi_wp2
  obtain ⟨X6, hX6⟩ : ∃ X, (w5.alloc (.cells #[.slice q n cap] 26)).alloc (.cells #[.int .i64 64] 3) = X := ⟨_, rfl⟩
  have nb6 : Below w5.heap.size w5 X6 := by rw [← hX6]; exact ((Below.refl _ w5).alloc (Nat.le_refl _) _).alloc (by simp) _
  have fs6 : Full X6 B 26 [.slice q n cap] := by
    rw [← hX6, ← hB]
    exact (Full.new w5 _ _).next ((Below.refl _ _).alloc (Nat.le_refl _) _)
  have fk6 : Full X6 (B + 1) 3 [.int .i64 64] := by
    have h := Full.new (w5.alloc (.cells #[.slice q n cap] 26)) #[.int .i64 64] 3
    rw [World.size_alloc, hB, hX6] at h
    exact h
  have z6 : X6.heap.size = B + 2 := by rw [← hX6, World.size_alloc, World.size_alloc, hB]
  have h0 : EnI W R P B [.int .i64 ph, .int .i64 tr, .string out, .int .i64 inp, .slice q n cap] q n cap [82, 1] X6 :=
    ⟨H5.out.1.next nb6, H5.out.2.1.next nb6, fs6, fk6, H5.out.2.2.1.trans (nb6.mono H5.out.2.2.1.size)⟩
  have hck : ChK B g o n cap q X6 := ⟨(fs6.cell 0 _ rfl).1, (fk6.cell 0 _ rfl).1⟩
  have HO : Hid (R < P ∧ P < B ∧ W.heap.size ≤ P) := H5.out.2.2.2
  have hBs : B + 1 < X6.heap.size := by omega
  have hqg : 0 < n → q = some ⟨g, o, none⟩ := fun k => (HGO.out (by rw [HL.out.1]; exact k)).1
  have hnm := HL.out.2.1
  have hcp := HL.out.2.2.2.2.1
  have hWX : W.heap.size ≤ X6.heap.size := h0.bel.size
  rw [hX6]
  clear hw6 hX6 hB nb6 fs6 fk6 z6 H5
  refine wpIn_range_guard rfl (by omega) (gf := 53) (lb := #[.pointer (some ⟨B, 0, none⟩), .pointer (some ⟨B + 1, 0, none⟩)]) rfl trivial (enters_of Tryd.func53 (by kernel_rfl) rfl)
    (chunks_seq 5 (by omega) B g o n cap q X6 hnm hcp hqg hck hBs) (Below.refl _ _) (fun _ => rfl)
    (fun pre wr => ∃ D, EnD L pre.length D ∧ 64 * pre.length < n + 64 ∧ EnI W R P B [.int .i64 ph, .int .i64 tr, .string out, .int .i64 inp, .slice q n cap] q n cap D wr)
    (fun _ _ _ => False)
    (fun s A B' row hs hg hr => by
      obtain ⟨D, k1, k2, k3⟩ := hs
      exact ⟨D, k1, k2, k3.own hg hWX hr⟩)
    (fun c s A B' row hs hg hr => hs)
    ⟨[82, 1], EnD.zero L, by show 64 * 0 < n + 64; omega, h0⟩
    (fun pre wr hs => by
      obtain ⟨D, k1, k2, k3⟩ := hs
      exact ⟨(k3.s.cell 0 _ rfl).1, (k3.k.cell 0 _ rfl).1⟩)
    (fun _ _ _ _ => trivial)
    (fun x => { tmps := enT ph tr out inp q n cap R P B v (partV g o n x) (partV g o n x), defers := [] }) ?assign ?body ?done ?stop
  case assign =>
    intro l x Wc K hK
    gi_wp2
    simpa [enT] using hK
  case stop =>
    rintro D c pre Wd _ h _
    exact h.elim
  case body =>
    rintro l pre x Wc ⟨D, hD, hpl, hEI⟩ ⟨rfl, hlt⟩
    obtain ⟨k, hk⟩ : ∃ k, pre.length = k := ⟨_, rfl⟩
    rw [hk] at hD hpl hlt ⊢
    obtain ⟨rfl, hgW, hrg⟩ := HGO.out (by have := HL.out.1; omega)
    obtain ⟨p, hp⟩ : ∃ p, (L.drop (64 * k)).take 64 = p := ⟨_, rfl⟩
    have hok : EvsOk p := by rw [← hp]; exact part_ok HL.out.2.2.1 HL.out.2.2.2.1 (64 * k)
    obtain ⟨e, he⟩ : ∃ e, min 64 (n - 64 * k) = e := ⟨_, rfl⟩
    have hpe : p.length = e := by rw [← hp, List.length_take, List.length_drop, HL.out.1]; exact he
    have hgc : g < Wc.heap.size := Nat.lt_of_lt_of_le hgW hEI.bel.size
    have hrow : Row Wc Wc.heap.size (some ⟨g, o + 64 * k * 6, none⟩) p.length (p.flatMap ec) := fun _ => ⟨g, o + 64 * k * 6, rfl, hgc, by
      rw [← hp]
      exact row_part (range_same hrg (hEI.bel.block g hgW)) (64 * k) (by have := HL.out.1; omega)⟩
    have HC := body_any Wc (some ⟨g, o + 64 * k * 6, none⟩) e p hrow hok
    rw [hpe] at HC
    have hpv : partV g o n k = .slice (some ⟨g, o + 64 * k * 6, none⟩) e e := by unfold partV; rw [he]
    rw [hpv]
    unfold enT
    have hbl := body_le hok
    obtain ⟨bd, hbd⟩ : ∃ bd : ByteArray, (⟨(bodyL p).toArray⟩ : ByteArray) = bd := ⟨_, rfl⟩
    have hbdl : bd.data.toList = bodyL p := by rw [← hbd]
    have hbds : bd.size ≤ 25601 := by rw [Lib.size_eq, hbdl]; exact hbl
    rw [hbd] at HC
    obtain ⟨cb, hcb⟩ : ∃ cb : ByteArray, (⟨(chS bd.data.toList).toArray⟩ : ByteArray) = cb := ⟨_, rfl⟩
    have hcbl : cb.data.toList = chS (bodyL p) := by rw [← hcb, ← hbdl]
    have hcbs : cb.size ≤ 25609 := by rw [Lib.size_eq, hcbl, chS_len]; omega
    have HD : Hid (EnD L (k + 1) (D ++ cb.data.toList)) := by rw [hcbl, ← hp]; exact hD.go HL.out.2.2.1 HL.out.2.2.2.1 (by rw [HL.out.1]; exact hlt)
    have hDl := hD.len
    have HEI : Hid (EnI W R P B [.int .i64 ph, .int .i64 tr, .string out, .int .i64 inp, .slice (some ⟨g, o, none⟩) n cap] (some ⟨g, o, none⟩) n cap D Wc) := hEI
    have HKk : Hid (pre.length = k ∧ 64 * k < n) := ⟨hk, hlt⟩
    clear hrow hpv hok hpe he hp hbl hbd hbdl hcbl hD hpl hEI hk hrg hgW hgc h0 hck hBs hqg hcp hWX
    gi_wp2_with fail
    refine ⟨trivial, ?_⟩
    gi_at_call 36
    refine (callsIn_wide.2 HC).mono ?_
    rintro e8 w8 ⟨rfl, hb8⟩
    have HE8 := HEI.out.next hb8
    have HC2 := chunk_any w8 bd (HT.out.next HE8.bel) (by omega)
    rw [hcb] at HC2
    have HE8h : Hid (EnI W R P B [.int .i64 ph, .int .i64 tr, .string out, .int .i64 inp, .slice (some ⟨g, o, none⟩) n cap] (some ⟨g, o, none⟩) n cap D w8 ∧ Below Wc.heap.size Wc w8) := ⟨HE8, hb8⟩
    clear HC hb8 HE8 hcb
    gi_wp2_with fail
    refine ⟨trivial, ?_⟩
    gi_at_call 35
    refine (callsIn_wide.2 HC2).mono ?_
    rintro e9 w9 ⟨rfl, hb9⟩
    have HE9 := HE8h.out.1.next hb9
    have HC3 := bw_any cb HE9.i (by have := HKk.out; have := HL.out.2.1; omega) (Nat.le_of_lt (by rcases HE9.i with h | h <;> exact bat_lt h))
    have HE9h : Hid (EnI W R P B [.int .i64 ph, .int .i64 tr, .string out, .int .i64 inp, .slice (some ⟨g, o, none⟩) n cap] (some ⟨g, o, none⟩) n cap D w9 ∧ Below w8.heap.size w8 w9) := ⟨HE9, hb9⟩
    clear HC2 hb9 HE9
    gi_wp2_with fail
    refine ⟨trivial, ?_⟩
    gi_at_call 33
    refine (callsIn_wide.2 HC3).mono ?_
    rintro e10 w10 ⟨⟨v10, rfl⟩, hq⟩
    clear HC3
    gi_wp2
    have hlen : (pre ++ [k]).length = k + 1 := by rw [List.length_append, List.length_singleton, HKk.out.1]
    refine ⟨((keeps_below HE8h.out.2).trans (keeps_below HE9h.out.2)).trans (keeps_othB HE9h.out.1.i hq.out.2.2 hq.out.2.1.size), D ++ cb.data.toList, by rw [hlen]; exact HD.out, by rw [hlen]; have := HKk.out; omega, HE9h.out.1.write HO.out.1 HO.out.2.1 HO.out.2.2 hq.out⟩
  case done =>
    rintro D0 xs Wd hD0 hS ⟨D, hD, hpl, hEI⟩ hK
    obtain rfl := hD.end_ (by rw [HL.out.1]; exact hS)
    have HK : Hid (Wd.heap[D0]? = some (.deferred (some [])) ∧ W.heap.size ≤ D0) := ⟨hK, Nat.le_trans hWX hD0⟩
    have HEI : Hid (EnI W R P B [.int .i64 ph, .int .i64 tr, .string out, .int .i64 inp, .slice q n cap] q n cap ([82, 1] ++ evF L) Wd) := hEI
    have HDl : Hid (([82, 1] ++ evF L).length ≤ 2 + 25609 * xs.length ∧ 64 * xs.length < n + 64) := ⟨hD.len, hpl⟩
    obtain ⟨⟨⟨r0, -⟩, ⟨r1, -⟩, r2, -⟩, ⟨r3, -⟩, r4, -⟩ := hEI.r.five2
    have HC := HLastH.out Wd
    clear h0 hck hBs hqg hcp hWX hD0 hS hD hpl hEI hK
    obtain ⟨lb, hlb⟩ : ∃ lb : ByteArray, (⟨(lastL ⟨ph, tr, out.data.toList, inp, L⟩).toArray⟩ : ByteArray) = lb := ⟨_, rfl⟩
    have hlbl : lb.data.toList = lastL ⟨ph, tr, out.data.toList, inp, L⟩ := by rw [← hlb]
    have hlbs : lb.size ≤ 16777225 := by
      rw [Lib.size_eq, hlbl, lastL_len]
      show 9 + out.data.toList.length ≤ _
      rw [← Lib.size_eq]
      have := HL.out.2.2.2.2.2
      omega
    rw [hlb] at HC
    obtain ⟨cb, hcb⟩ : ∃ cb : ByteArray, (⟨(chS lb.data.toList).toArray⟩ : ByteArray) = cb := ⟨_, rfl⟩
    have hcbl : cb.data.toList = chS (lastL ⟨ph, tr, out.data.toList, inp, L⟩) := by rw [← hcb, ← hlbl]
    have hcbs : cb.size ≤ 16777233 := by rw [Lib.size_eq, ← hcb, chS_len, ← Lib.size_eq]; omega
    have HFl : Hid (([82, 1] ++ evF L) ++ cb.data.toList = fileL ⟨ph, tr, out.data.toList, inp, L⟩) := by
      rw [hcbl]
      rfl
    clear hlb hlbl hcbl
    gi_wp2_with fail
    refine ⟨trivial, ?_⟩
    gi_at_call 37
    refine (callsIn_wide.2 HC).mono ?_
    rintro e8 w8 ⟨rfl, hb8⟩
    have HE8 := HEI.out.next hb8
    have HC2 := chunk_any w8 lb (HT.out.next HE8.bel) (by omega)
    rw [hcb] at HC2
    have HE8h : Hid (EnI W R P B [.int .i64 ph, .int .i64 tr, .string out, .int .i64 inp, .slice q n cap] q n cap ([82, 1] ++ evF L) w8 ∧ w8.heap[D0]? = some (.deferred (some []))) := ⟨HE8, (keeps_below hb8).same D0 _ HK.out.1 rfl⟩
    clear HC hb8 HE8 hcb r0 r1 r2 r3 r4 HEI
    gi_wp2_with fail
    refine ⟨trivial, ?_⟩
    gi_at_call 35
    refine (callsIn_wide.2 HC2).mono ?_
    rintro e9 w9 ⟨rfl, hb9⟩
    have HE9 := HE8h.out.1.next hb9
    have HC3 := bw_any cb HE9.i (by have := HDl.out; have := HL.out.2.1; omega) (Nat.le_of_lt (by rcases HE9.i with h | h <;> exact bat_lt h))
    have HE9h : Hid (EnI W R P B [.int .i64 ph, .int .i64 tr, .string out, .int .i64 inp, .slice q n cap] q n cap ([82, 1] ++ evF L) w9 ∧ w9.heap[D0]? = some (.deferred (some []))) := ⟨HE9, (keeps_below hb9).same D0 _ HE8h.out.2 rfl⟩
    clear HC2 hb9 HE9 HE8h
    gi_wp2_with fail
    refine ⟨trivial, ?_⟩
    gi_at_call 33
    refine (callsIn_wide.2 HC3).mono ?_
    rintro e10 w10 ⟨⟨v10, rfl⟩, hq⟩
    have HEa := HE9h.out.1.write HO.out.1 HO.out.2.1 HO.out.2.2 hq.out
    rw [HFl.out] at HEa
    have HEah : Hid (EnI W R P B [.int .i64 ph, .int .i64 tr, .string out, .int .i64 inp, .slice q n cap] q n cap (fileL ⟨ph, tr, out.data.toList, inp, L⟩) w10 ∧ w10.heap[D0]? = some (.deferred (some []))) := ⟨HEa, (keeps_othB HE9h.out.1.i hq.out.2.2 hq.out.2.1.size).same D0 _ HE9h.out.2 rfl⟩
    have HC4 := Tryd.Builder_String_any_k P P (fileL ⟨ph, tr, out.data.toList, inp, L⟩) w10 (Lib.IsBuilderF.of HEa.i) (Nat.le_of_lt (by rcases HEa.i with h | h <;> exact bat_lt h))
    clear HC3 HEa HE9h hq
    gi_wp2_with fail
    refine ⟨trivial, ?_⟩
    gi_at_call 38
    refine (callsIn_wide.2 HC4).mono ?_
    rintro e11 w11 ⟨rfl, -, hb11, ho11⟩
    have HZ : Hid (w11.heap[D0]? = some (.deferred (some [])) ∧ Below W.heap.size W w11) := ⟨(keeps_othB HEah.out.1.i ho11 hb11.size).same D0 _ HEah.out.2 rfl, HEah.out.1.bel.trans (hb11.mono HO.out.2.2)⟩
    clear HC4 hb11 ho11 HEah
    gi_wp2
    refine ⟨by simp, .inl ⟨_, _, rfl, run_takeDeferred HZ.out.1, ?_⟩⟩
    refine ⟨.tuple #[.string ⟨(fileL ⟨ph, tr, out.data.toList, inp, L⟩).toArray⟩, .int .i64 0], by simp [results, Tryd.results20, go_sem], ?_⟩
    unfold EncP
    rw [HV.out]
    exact ⟨rfl, HZ.out.2.grown (grownBy_putObj' w11 D0 (.deferred none)) HZ.out.2.size (fun k e => by cases e; exact HK.out.2)⟩
/-- Encode, whole. -/
theorem encode_any (W : World) (ph tr : Int) (out : ByteArray) (inp : Int) (q : Option Addr) (cap : Nat) (L : List Ev) (hT : SumT W) (hI : RcIn W q cap L) (ho : out.size ≤ 140737488355328) :
    Calls Tryd.prog 20 #[.agg (recC ph tr out inp q L.length cap)] W (EncP W ph tr out inp L) := by
  by_cases hb : 1048576 < L.length ∨ 16777216 < out.size
  · exact encode_size W ph tr out inp q cap L hI.most ho hb
  · have h1 : L.length ≤ 1048576 := by omega
    have h2 : out.size ≤ 16777216 := by omega
    cases h : endOk ph tr inp && L.all evOk with
    | false => exact encode_bad W ph tr out inp q cap L hI h1 h2 h
    | true =>
      rw [Bool.and_eq_true] at h
      exact encode_good W ph tr out inp q cap L hT hI h1 h2 h.1 h.2
end Go.Proofs.YtdmiciblfbkndaaDoor

namespace Go.Proofs.YtdmiciblfbkndaaDoor
open Go.RowKit

/-- The record that known lays. -/
def evK : List Ev := [⟨1, 3, [], 0, 0, []⟩, ⟨7, 4, [97], 1, -3, []⟩]
def rcK : Rc := ⟨1, 0, [120], 0, evK⟩
theorem encK : encS rcK = (fileL rcK, 0) := enc_of (by decide) (by decide) (by decide) (by decide)
theorem backK : decS (fileL rcK) = (rcK, 0) ∧ salS (fileL rcK) = (rcK, (fileL rcK).length, 0) := by
  have h := enc_dec rcK (by rw [encK]) (by
    intro e he
    unfold evIn
    simp only [rcK, evK, List.mem_cons, List.not_mem_nil, or_false] at he
    rcases he with rfl | rfl <;> decide)
  rw [encK] at h
  exact h
theorem lenK : 20 < (fileL rcK).length ∧ (fileL rcK).length ≤ 1000000 := by
  have h1 : (fileL rcK).length = 2 + (evF evK).length + (8 + (9 + 1)) := by
    unfold fileL
    rw [List.length_append, List.length_append, chS_len, lastL_len]
    rfl
  have h2 : (evF evK) = chS (bodyL evK) ++ evF [] := by
    have h := evF_cons (M := evK) (by decide)
    exact h
  have h3 : EvsOk evK := part_ok (L := evK) (by decide) (by
    intro e he
    simp only [evK, List.mem_cons, List.not_mem_nil, or_false] at he
    rcases he with rfl | rfl <;> decide) 0
  have h4 := body_le h3
  rw [h1, h2, evF_nil, List.append_nil, chS_len]
  omega
theorem rdK : ∀ e ∈ evK, EvSz e ∧ (-9223372036854775808 ≤ e.vn ∧ e.vn ≤ 9223372036854775807) := by
  intro e he
  unfold EvSz
  simp only [evK, List.mem_cons, List.not_mem_nil, or_false] at he
  rcases he with rfl | rfl <;> decide
/-- What is answered of that record's file. -/
theorem RcA.kn {B : Nat} {w : World} {v : Value} (h : RcA B w rcK v) : ∃ q c, v = .agg #[.int .i64 1, .int .i64 0, .string ⟨#[120]⟩, .int .i64 0, .slice q 2 c] ∧ Row w w.heap.size q evK.length (evK.flatMap ec) := by
  obtain ⟨nv, rfl, ho⟩ := h
  obtain ⟨q, c, rfl, -, hr⟩ := own_slice ho
  exact ⟨q, c, rfl, row_of_own ho⟩
set_option maxRecDepth 100000 in
set_option maxHeartbeats 4000000 in
theorem known_any (W : World) (hT : SumT W) : Calls Tryd.prog 12 #[] W fun e w' => e = .returned (.bool true) ∧ Below W.heap.size W w' := by
  obtain ⟨G, hG⟩ : ∃ G, W.heap.size = G := ⟨_, rfl⟩
  obtain ⟨X1, hX1⟩ : ∃ X, W.alloc (.cells #[.int .i64 1, .int .i64 3, .string ⟨#[]⟩, .int .i64 0, .int .i64 0, .string ⟨#[]⟩, .int .i64 7, .int .i64 4, .string ⟨#[97]⟩, .int .i64 1, .int .i64 (-3), .string ⟨#[]⟩] 37) = X := ⟨_, rfl⟩
  have b1 : Below W.heap.size W X1 := by rw [← hX1]; exact (Below.refl _ W).alloc (Nat.le_refl _) _
  have f1 : Full X1 G 37 (evK.flatMap ec) := by rw [← hX1, ← hG]; exact Full.new W _ _
  obtain ⟨R, hR⟩ : ∃ R, X1.heap.size = R := ⟨_, rfl⟩
  obtain ⟨X2, hX2⟩ : ∃ X, X1.alloc (.cells #[.int .i64 1, .int .i64 0, .string ⟨#[120]⟩, .int .i64 0, .slice (some ⟨G, 0, none⟩) 2 2] 28) = X := ⟨_, rfl⟩
  have n2 : Below X1.heap.size X1 X2 := by rw [← hX2]; exact (Below.refl _ _).alloc (Nat.le_refl _) _
  have b2 : Below W.heap.size W X2 := b1.trans (n2.mono b1.size)
  have f2 : Full X2 R 28 [.int .i64 1, .int .i64 0, .string ⟨#[120]⟩, .int .i64 0, .slice (some ⟨G, 0, none⟩) 2 2] := by rw [← hX2, ← hR]; exact Full.new X1 _ _
  have rg2 : X2.rangeAt G 0 (evK.flatMap ec) := fun j v hv => by
    have h := (f1.next n2).cell j v hv
    rw [Nat.zero_add]
    exact h.1
  have hrow : Row X2 X2.heap.size (some ⟨G, 0, none⟩) evK.length (evK.flatMap ec) := fun _ => ⟨G, 0, rfl, Nat.lt_of_lt_of_le f1.lt n2.size, rg2⟩
  have hin : RcIn X2 (some ⟨G, 0, none⟩) 2 evK := ⟨hrow, by decide, fun e he => (rdK e he).1, fun e he => (rdK e he).2, by decide⟩
  obtain ⟨fb, hfb⟩ : ∃ fb : ByteArray, (⟨(fileL rcK).toArray⟩ : ByteArray) = fb := ⟨_, rfl⟩
  have hfl : fb.data.toList = fileL rcK := by rw [← hfb]
  have hfs : 20 < fb.size ∧ fb.size ≤ 1000000 := by rw [Lib.size_eq, hfl]; exact lenK
  have HE : Calls Tryd.prog 20 #[.agg #[.int .i64 1, .int .i64 0, .string ⟨#[120]⟩, .int .i64 0, .slice (some ⟨G, 0, none⟩) 2 2]] X2 fun e w' => e = .returned (.tuple #[.string fb, .int .i64 0]) ∧ Below X2.heap.size X2 w' := by
    have h := encode_any X2 1 0 ⟨#[120]⟩ 0 (some ⟨G, 0, none⟩) 2 evK (hT.next b2) hin (by decide)
    refine h.mono fun e w' q => ?_
    obtain ⟨q1, q2⟩ := q
    refine ⟨q1.trans ?_, q2⟩
    show Ending.returned (.tuple #[.string ⟨(encS rcK).1.toArray⟩, .int .i64 (encS rcK).2]) = _
    rw [encK, ← hfb]
  have H2 : Hid (Below W.heap.size W X2 ∧ Full X2 R 28 [.int .i64 1, .int .i64 0, .string ⟨#[120]⟩, .int .i64 0, .slice (some ⟨G, 0, none⟩) 2 2] ∧ Row X2 X2.heap.size (some ⟨G, 0, none⟩) evK.length (evK.flatMap ec)) := ⟨b2, f2, hrow⟩
  have HF : Hid (fb.data.toList = fileL rcK) := hfl
  have HT : Hid (SumT W) := hT
  have q20 : (20 : Int) < (fb.size : Int) := by omega
  have qm : (fb.size : Int) ≤ 1000000 := by omega
  have hfb2 : fb.size ≤ 140737488355328 := by omega
  obtain ⟨⟨⟨r0, -⟩, ⟨r1, -⟩, r2, -⟩, ⟨r3, -⟩, r4, -⟩ := f2.five2
  clear b1 f1 n2 b2 f2 hrow hin hfb hfl hfs hT
  go_enter Tryd.func12, Tryd.ntmps12
  go_wp2_with fail
  refine HE.mono ?_
  rintro e w3 ⟨rfl, hb3⟩
  have H3 : Hid (Below W.heap.size W w3 ∧ Full w3 R 28 [.int .i64 1, .int .i64 0, .string ⟨#[120]⟩, .int .i64 0, .slice (some ⟨G, 0, none⟩) 2 2] ∧ Row w3 w3.heap.size (some ⟨G, 0, none⟩) evK.length (evK.flatMap ec)) := ⟨H2.out.1.trans (hb3.mono H2.out.1.size), H2.out.2.1.next hb3, (H2.out.2.2.below hb3 (Nat.le_refl _)).up hb3.size⟩
  have HD := decode_any w3 fb (HT.out.next H3.out.1) hfb2
  rw [HF.out, backK.1] at HD
  clear HE hb3 H2 r0 r1 r2 r3 r4 hX1 hX2
  go_wp2_with fail
  refine HD.mono ?_
  rintro e w4 ⟨⟨v, rfl, hv⟩, hb4⟩
  obtain ⟨qd, cd, rfl, hrd⟩ := hv.kn
  have H4 : Hid (Below W.heap.size W w4 ∧ Full w4 R 28 [.int .i64 1, .int .i64 0, .string ⟨#[120]⟩, .int .i64 0, .slice (some ⟨G, 0, none⟩) 2 2] ∧ Row w4 w4.heap.size (some ⟨G, 0, none⟩) evK.length (evK.flatMap ec)) := ⟨H3.out.1.trans (hb4.mono H3.out.1.size), H3.out.2.1.next hb4, (H3.out.2.2.below hb4 (Nat.le_refl _)).up hb4.size⟩
  obtain ⟨D, hD⟩ : ∃ D, w4.heap.size = D := ⟨_, rfl⟩
  obtain ⟨X4, hX4⟩ : ∃ X, w4.alloc (.cells #[.int .i64 1, .int .i64 0, .string ⟨#[120]⟩, .int .i64 0, .slice qd 2 cd] 28) = X := ⟨_, rfl⟩
  have n4 : Below w4.heap.size w4 X4 := by rw [← hX4]; exact (Below.refl _ _).alloc (Nat.le_refl _) _
  have f4 : Full X4 D 28 [.int .i64 1, .int .i64 0, .string ⟨#[120]⟩, .int .i64 0, .slice qd 2 cd] := by rw [← hX4, ← hD]; exact Full.new w4 _ _
  have H5 : Hid (Below W.heap.size W X4 ∧ Full X4 R 28 [.int .i64 1, .int .i64 0, .string ⟨#[120]⟩, .int .i64 0, .slice (some ⟨G, 0, none⟩) 2 2] ∧ Row X4 X4.heap.size (some ⟨G, 0, none⟩) evK.length (evK.flatMap ec) ∧ Full X4 D 28 [.int .i64 1, .int .i64 0, .string ⟨#[120]⟩, .int .i64 0, .slice qd 2 cd] ∧ Row X4 X4.heap.size qd evK.length (evK.flatMap ec)) := ⟨H4.out.1.trans (n4.mono H4.out.1.size), H4.out.2.1.next n4, (H4.out.2.2.below n4 (Nat.le_refl _)).up n4.size, f4, (hrd.below n4 (Nat.le_refl _)).up n4.size⟩
  have HS := salvage_any X4 fb (HT.out.next H5.out.1) hfb2
  rw [HF.out, backK.2] at HS
  clear HD hb4 hv hrd n4 f4 H4 H3
  go_wp2_with fail
  refine HS.mono ?_
  rintro e w6 ⟨⟨v, rfl, hv⟩, hb6⟩
  obtain ⟨qs, cs, rfl, hrs⟩ := hv.kn
  have hln : (((fileL rcK).length : Nat) : Int) = (fb.size : Int) := by rw [Lib.size_eq, HF.out]
  rw [hln]
  obtain ⟨S, hS⟩ : ∃ S, w6.heap.size = S := ⟨_, rfl⟩
  obtain ⟨X6, hX6⟩ : ∃ X, w6.alloc (.cells #[.int .i64 1, .int .i64 0, .string ⟨#[120]⟩, .int .i64 0, .slice qs 2 cs] 28) = X := ⟨_, rfl⟩
  have n6 : Below w6.heap.size w6 X6 := by rw [← hX6]; exact (Below.refl _ _).alloc (Nat.le_refl _) _
  have f6 : Full X6 S 28 [.int .i64 1, .int .i64 0, .string ⟨#[120]⟩, .int .i64 0, .slice qs 2 cs] := by rw [← hX6, ← hS]; exact Full.new w6 _ _
  have n56 : Below X4.heap.size X4 X6 := hb6.trans (n6.mono hb6.size)
  have H6 : Hid (Below W.heap.size W X6 ∧ Full X6 R 28 [.int .i64 1, .int .i64 0, .string ⟨#[120]⟩, .int .i64 0, .slice (some ⟨G, 0, none⟩) 2 2] ∧ Row X6 X6.heap.size (some ⟨G, 0, none⟩) evK.length (evK.flatMap ec) ∧ Full X6 D 28 [.int .i64 1, .int .i64 0, .string ⟨#[120]⟩, .int .i64 0, .slice qd 2 cd] ∧ Row X6 X6.heap.size qd evK.length (evK.flatMap ec) ∧ Full X6 S 28 [.int .i64 1, .int .i64 0, .string ⟨#[120]⟩, .int .i64 0, .slice qs 2 cs] ∧ Row X6 X6.heap.size qs evK.length (evK.flatMap ec)) := ⟨H5.out.1.trans (n56.mono H5.out.1.size), H5.out.2.1.next n56, (H5.out.2.2.1.below n56 (Nat.le_refl _)).up n56.size, H5.out.2.2.2.1.next n56, (H5.out.2.2.2.2.below n56 (Nat.le_refl _)).up n56.size, f6, (hrs.below n6 (Nat.le_refl _)).up n6.size⟩
  have HM : Calls Tryd.prog 8 #[.agg #[.int .i64 1, .int .i64 0, .string ⟨#[120]⟩, .int .i64 0, .slice qd 2 cd], .agg #[.int .i64 1, .int .i64 0, .string ⟨#[120]⟩, .int .i64 0, .slice (some ⟨G, 0, none⟩) 2 2]] X6 fun e w' => e = .returned (.bool true) ∧ Below X6.heap.size X6 w' := same_yes X6 1 0 ⟨#[120]⟩ 0 evK qd (some ⟨G, 0, none⟩) cd 2 H6.out.2.2.2.2.1 H6.out.2.2.1 (by decide)
  obtain ⟨⟨⟨r0, -⟩, ⟨r1, -⟩, r2, -⟩, ⟨r3, -⟩, r4, -⟩ := H6.out.2.1.five2
  obtain ⟨⟨⟨d0, -⟩, ⟨d1, -⟩, d2, -⟩, ⟨d3, -⟩, d4, -⟩ := H6.out.2.2.2.1.five2
  clear HS hb6 hv hrs n6 f6 n56 H5 hX4 hln
  go_wp2_with fail
  refine HM.mono ?_
  rintro e w7 ⟨rfl, hb7⟩
  have HM2 : Calls Tryd.prog 8 #[.agg #[.int .i64 1, .int .i64 0, .string ⟨#[120]⟩, .int .i64 0, .slice qs 2 cs], .agg #[.int .i64 1, .int .i64 0, .string ⟨#[120]⟩, .int .i64 0, .slice (some ⟨G, 0, none⟩) 2 2]] w7 fun e w' => e = .returned (.bool true) ∧ Below w7.heap.size w7 w' := same_yes w7 1 0 ⟨#[120]⟩ 0 evK qs (some ⟨G, 0, none⟩) cs 2 ((H6.out.2.2.2.2.2.2.below hb7 (Nat.le_refl _)).up hb7.size) ((H6.out.2.2.1.below hb7 (Nat.le_refl _)).up hb7.size) (by decide)
  have H7 : Hid (Below W.heap.size W w7) := H6.out.1.trans (hb7.mono H6.out.1.size)
  clear r0 r1 r2 r3 r4 d0 d1 d2 d3 d4 HM hX6
  obtain ⟨⟨⟨r0, -⟩, ⟨r1, -⟩, r2, -⟩, ⟨r3, -⟩, r4, -⟩ := (H6.out.2.1.next hb7).five2
  obtain ⟨⟨⟨d0, -⟩, ⟨d1, -⟩, d2, -⟩, ⟨d3, -⟩, d4, -⟩ := (H6.out.2.2.2.2.2.1.next hb7).five2
  clear hb7
  go_wp2_with fail
  refine HM2.mono ?_
  rintro e w8 ⟨rfl, hb8⟩
  have H8 : Hid (Below W.heap.size W w8) := H7.out.trans (hb8.mono H7.out.size)
  clear HM2 hb8 r0 r1 r2 r3 r4 d0 d1 d2 d3 d4 H6 H7
  go_wp2_with fail
  go_ret
  exact ⟨rfl, H8.out⟩
end Go.Proofs.YtdmiciblfbkndaaDoor

namespace Go.Proofs.YtdmiciblfbkndaaDoor
open Go.RowKit

/-- A record that was answered, opened. -/
theorem RcA.opn {B : Nat} {w : World} {rc : Rc} {v : Value} (h : RcA B w rc v) : ∃ (ob : ByteArray) (q : Option Addr) (c : Nat), v = .agg #[.int .i64 rc.ph, .int .i64 rc.tr, .string ob, .int .i64 rc.inp, .slice q rc.evs.length c] ∧ ob.data.toList = rc.out ∧ w.ownsRow B 37 6 (.slice q rc.evs.length c) rc.evs.length (rc.evs.flatMap ec) := by
  obtain ⟨nv, rfl, ho⟩ := h
  obtain ⟨q, c, rfl, hc, -⟩ := own_slice ho
  obtain ⟨ob, hob⟩ : ∃ x : ByteArray, x.data.toList = rc.out := ⟨⟨rc.out.toArray⟩, rfl⟩
  refine ⟨ob, q, c, ?_, hob, ho⟩
  rw [sV_at hob]
theorem sg_sal (b : List UInt8) : (sgS b).1 = (salS b).1 ∧ (sgS b).2.1 = (salS b).2.1 := by
  unfold sgS salS
  cases followS b with
  | none => exact ⟨rfl, rfl⟩
  | some w => exact ⟨rfl, rfl⟩
theorem sal_le (b : List UInt8) : (salS b).2.1 ≤ b.length ∧ ((salS b).2.1 = 0 → salS b = (rc0, 0, 250)) ∧ ((salS b).2.1 ≠ 0 → (salS b).2.2 = 0) := by
  rcases sal_enc b with ⟨h1, h2, -⟩ | ⟨h1, -, h2, h3, -⟩
  · refine ⟨by omega, fun _ => ?_, fun h => absurd h2 h⟩
    unfold salS at h1 ⊢
    cases hf : followS b with
    | none => rfl
    | some w => rw [hf] at h1; simp at h1
  · exact ⟨h3, fun h => by omega, fun _ => h1⟩
theorem ret_rdec {w : World} {R : Nat} {a b c d e : Value} {x : Int} {tm : Array Value} (h : Full w R 28 [a, b, c, d, e]) (h2 : tm[2]?.getD undef = .pointer (some ⟨R, 0, none⟩)) (h3 : tm[3]?.getD undef = .int .i64 x) : (results Tryd.f10 tm).run Tryd.prog w = .ok (.tuple #[.agg #[a, b, c, d, e], .int .i64 x]) w := by
  obtain ⟨⟨⟨r0, g0⟩, ⟨r1, g1⟩, r2, g2⟩, ⟨r3, g3⟩, r4, g4⟩ := h.five2
  simp [results, Tryd.results10, go_sem, h2, h3, r0, r1, r2, r3, r4]
theorem ret_rsal {w : World} {R : Nat} {a b c d e : Value} {x y : Int} {tm : Array Value} (h : Full w R 28 [a, b, c, d, e]) (h2 : tm[2]?.getD undef = .pointer (some ⟨R, 0, none⟩)) (h3 : tm[3]?.getD undef = .int .i64 x) (h4 : tm[4]?.getD undef = .int .i64 y) : (results Tryd.f11 tm).run Tryd.prog w = .ok (.tuple #[.agg #[a, b, c, d, e], .int .i64 x, .int .i64 y]) w := by
  obtain ⟨⟨⟨r0, g0⟩, ⟨r1, g1⟩, r2, g2⟩, ⟨r3, g3⟩, r4, g4⟩ := h.five2
  simp [results, Tryd.results11, go_sem, h2, h3, h4, r0, r1, r2, r3, r4]
set_option maxRecDepth 100000 in
set_option maxHeartbeats 4000000 in
theorem rdecode_any (W : World) (b : ByteArray) (hb : b.size ≤ 140737488355328) :
    Calls Tryd.prog 10 #[.string b] W fun e w' => (∃ v, e = .returned (.tuple #[v, .int .i64 (decS b.data.toList).2]) ∧ RcA W.heap.size w' (decS b.data.toList).1 v) ∧ Below W.heap.size W w' := by
  obtain ⟨X0, hX0⟩ : ∃ X, W.alloc (.cells #[.int .i64 0, .int .i64 0, .string ⟨#[]⟩, .int .i64 0, .slice none 0 0] 28) = X := ⟨_, rfl⟩
  obtain ⟨R0, hR0⟩ : ∃ R0, W.heap.size = R0 := ⟨_, rfl⟩
  have b0 : Below W.heap.size W X0 := by rw [← hX0]; exact (Below.refl _ W).alloc (Nat.le_refl _) _
  have f0 : Full X0 R0 28 rcZ := by rw [← hX0, ← hR0]; exact Full.new W _ _
  have HC := salvaged_any X0 b hb
  unfold SvP at HC
  have hsl := sal_le b.data.toList
  have hsg := sg_sal b.data.toList
  have hds := dec_sg b.data.toList
  have hl : b.data.toList.length = b.size := (Lib.size_eq b).symm
  obtain ⟨D, hD⟩ : ∃ D, decS b.data.toList = D := ⟨_, rfl⟩
  obtain ⟨S, hS⟩ : ∃ S, sgS b.data.toList = S := ⟨_, rfl⟩
  obtain ⟨rc, n, wh⟩ := S
  rw [hS] at HC hsg hds
  rw [hD] at hds ⊢
  simp only at HC hsg hds
  have hn : n ≤ b.size := by rw [hsg.2, ← hl]; exact hsl.1
  have HD : Hid (D = if wh = true ∧ b.size ≤ n then (rc, 0) else (rc0, 250)) := by show D = _; rw [hds, hl]
  have H0 : Hid (Below W.heap.size W X0 ∧ Full X0 R0 28 rcZ ∧ W.heap.size = R0) := ⟨b0, f0, hR0⟩
  have qn : (n : Int) ≤ (b.size : Int) := by omega
  clear hsl hsg hds hD hS b0 f0
  subst hX0
  go_enter Tryd.func10, Tryd.ntmps10
  go_wp2_with fail
  refine HC.mono ?_
  rintro e w2 ⟨⟨v, rfl, hv⟩, hb2⟩
  obtain ⟨ob, q, c, rfl, hob, ho⟩ := hv.opn
  obtain ⟨m, hm⟩ : ∃ m, rc.evs.length = m := ⟨_, rfl⟩
  obtain ⟨ph, hph⟩ : ∃ ph, rc.ph = ph := ⟨_, rfl⟩
  obtain ⟨tr, htr⟩ : ∃ tr, rc.tr = tr := ⟨_, rfl⟩
  obtain ⟨inp, hinp⟩ : ∃ inp, rc.inp = inp := ⟨_, rfl⟩
  rw [hm, hph, htr, hinp]
  obtain ⟨X2, hX2⟩ : ∃ X, w2.alloc (.cells #[.int .i64 ph, .int .i64 tr, .string ob, .int .i64 inp, .slice q m c] 28) = X := ⟨_, rfl⟩
  obtain ⟨P, hP⟩ : ∃ P, w2.heap.size = P := ⟨_, rfl⟩
  have n2 : Below w2.heap.size w2 X2 := by rw [← hX2]; exact (Below.refl _ _).alloc (Nat.le_refl _) _
  have f2 : Full X2 P 28 [.int .i64 ph, .int .i64 tr, .string ob, .int .i64 inp, .slice q m c] := by rw [← hX2, ← hP]; exact Full.new w2 _ _
  have nn := hb2.trans (n2.mono hb2.size)
  have fR := H0.out.2.1.next nn
  have bR := H0.out.1.trans (nn.mono H0.out.1.size)
  have oR : X2.ownsRow W.heap.size 37 6 (.slice q m c) rc.evs.length (rc.evs.flatMap ec) := by rw [← hm]; exact own_down (own_next ho n2) H0.out.1.size
  have HR : Hid (Full X2 R0 28 rcZ ∧ Below W.heap.size W X2 ∧ X2.ownsRow W.heap.size 37 6 (.slice q m c) rc.evs.length (rc.evs.flatMap ec) ∧ ob.data.toList = rc.out ∧ rc.ph = ph ∧ rc.tr = tr ∧ rc.inp = inp) := ⟨fR, bR, oR, hob, hph, htr, hinp⟩
  obtain ⟨⟨⟨p0, -⟩, ⟨p1, -⟩, p2, -⟩, ⟨p3, -⟩, p4, -⟩ := f2.five2
  unfold rcZ at fR
  obtain ⟨⟨⟨z0, y0⟩, ⟨z1, y1⟩, z2, y2⟩, ⟨z3, y3⟩, z4, y4⟩ := fR.five2
  clear HC hv hb2 ho hm hph htr hinp n2 f2 nn fR bR oR hob
  by_cases hgo : wh = true ∧ n = b.size
  · obtain ⟨rfl, rfl⟩ := hgo
    have hDD := HD.out
    rw [if_pos ⟨rfl, Nat.le_refl _⟩] at hDD
    have HDD : Hid (D = (rc, 0)) := hDD
    have f6 : Full (X2.setCells R0 0 [.int .i64 ph, .int .i64 tr, .string ob, .int .i64 inp, .slice q m c]) R0 28 [.int .i64 ph, .int .i64 tr, .string ob, .int .i64 inp, .slice q m c] := Full.put (a := []) (b := rcZ) (d := []) _ HR.out.1 rfl
    have b6 : Below W.heap.size W (X2.setCells R0 0 [.int .i64 ph, .int .i64 tr, .string ob, .int .i64 inp, .slice q m c]) := below_sets HR.out.2.1 (Nat.le_of_eq H0.out.2.2) _ _
    have r6 : RcA W.heap.size (X2.setCells R0 0 [.int .i64 ph, .int .i64 tr, .string ob, .int .i64 inp, .slice q m c]) rc (.agg #[.int .i64 ph, .int .i64 tr, .string ob, .int .i64 inp, .slice q m c]) := ⟨.slice q m c, by rw [← sV_at HR.out.2.2.2.1, HR.out.2.2.2.2.1, HR.out.2.2.2.2.2.1, HR.out.2.2.2.2.2.2], own_same HR.out.2.2.1 fun g hg => sets_heap (by rintro rfl; exact own_ne HR.out.2.2.1 (b := g) (t := 28) (m := 5) ⟨_, HR.out.1, by simp [rcZ]⟩ (by decide) hg) _ _ _⟩
    simp only [World.setCells, Nat.zero_add, Nat.reduceAdd] at f6 r6 b6
    have HX : Hid (_ ∧ _ ∧ _) := ⟨f6, r6, b6⟩
    clear f6 r6 b6 hDD HD HR
    go_wp2
    first | (change bodyPost Tryd.prog Tryd.f10 _ Exit.ret _ _) | (simp only [Exit.noGoto])
    refine bodyPost_ret (ret_rdec HX.out.1 rfl rfl) rfl ?_
    rw [HDD.out]
    exact ⟨⟨_, rfl, by first | exact HX.out.2.1 | (rw [← H0.out.2.2]; exact HX.out.2.1)⟩, by first | exact HX.out.2.2 | (rw [← H0.out.2.2]; exact HX.out.2.2)⟩
  · have hDD := HD.out
    rw [if_neg (fun h => hgo ⟨h.1, by omega⟩)] at hDD
    have HDD : Hid (D = (rc0, 250)) := hDD
    have f6 : Full (X2.setCells R0 0 [.int .i64 0, .int .i64 0, .string ⟨#[]⟩, .int .i64 0, .slice none 0 0]) R0 28 [.int .i64 0, .int .i64 0, .string ⟨#[]⟩, .int .i64 0, .slice none 0 0] := Full.put (a := []) (b := rcZ) (d := []) _ HR.out.1 rfl
    have b6 : Below W.heap.size W (X2.setCells R0 0 [.int .i64 0, .int .i64 0, .string ⟨#[]⟩, .int .i64 0, .slice none 0 0]) := below_sets HR.out.2.1 (Nat.le_of_eq H0.out.2.2) _ _
    simp only [World.setCells, Nat.zero_add, Nat.reduceAdd] at f6 b6
    have HX : Hid (_ ∧ _) := ⟨f6, b6⟩
    clear f6 b6 hDD HD HR
    cases wh with
    | false =>
      clear hgo
      go_wp2
      first | (change bodyPost Tryd.prog Tryd.f10 _ Exit.ret _ _) | (simp only [Exit.noGoto])
      refine bodyPost_ret (ret_rdec HX.out.1 rfl rfl) rfl ?_
      rw [HDD.out]
      exact ⟨⟨_, rfl, RcA.zero _ _⟩, by first | exact HX.out.2 | (rw [← H0.out.2.2]; exact HX.out.2)⟩
    | true =>
      have hne : ¬ (n : Int) = (b.size : Int) := fun e => hgo ⟨rfl, by omega⟩
      have hne2 : ((n : Int) == (b.size : Int)) = false := beq_eq_false_iff_ne.2 hne
      clear hgo
      go_wp2
      first | (change bodyPost Tryd.prog Tryd.f10 _ Exit.ret _ _) | (simp only [Exit.noGoto])
      refine bodyPost_ret (ret_rdec HX.out.1 rfl rfl) rfl ?_
      rw [HDD.out]
      exact ⟨⟨_, rfl, RcA.zero _ _⟩, by first | exact HX.out.2 | (rw [← H0.out.2.2]; exact HX.out.2)⟩
end Go.Proofs.YtdmiciblfbkndaaDoor

namespace Go.Proofs.YtdmiciblfbkndaaDoor
open Go.RowKit

set_option maxRecDepth 100000 in
set_option maxHeartbeats 4000000 in
theorem rsalvage_any (W : World) (b : ByteArray) (hb : b.size ≤ 140737488355328) :
    Calls Tryd.prog 11 #[.string b] W fun e w' => (∃ v, e = .returned (.tuple #[v, .int .i64 ((salS b.data.toList).2.1 : Int), .int .i64 (salS b.data.toList).2.2]) ∧ RcA W.heap.size w' (salS b.data.toList).1 v) ∧ Below W.heap.size W w' := by
  obtain ⟨X0, hX0⟩ : ∃ X, W.alloc (.cells #[.int .i64 0, .int .i64 0, .string ⟨#[]⟩, .int .i64 0, .slice none 0 0] 28) = X := ⟨_, rfl⟩
  obtain ⟨R0, hR0⟩ : ∃ R0, W.heap.size = R0 := ⟨_, rfl⟩
  have b0 : Below W.heap.size W X0 := by rw [← hX0]; exact (Below.refl _ W).alloc (Nat.le_refl _) _
  have f0 : Full X0 R0 28 rcZ := by rw [← hX0, ← hR0]; exact Full.new W _ _
  have HC := salvaged_any X0 b hb
  unfold SvP at HC
  have hsl := sal_le b.data.toList
  have hsg := sg_sal b.data.toList
  have hl : b.data.toList.length = b.size := (Lib.size_eq b).symm
  obtain ⟨D, hD⟩ : ∃ D, salS b.data.toList = D := ⟨_, rfl⟩
  obtain ⟨S, hS⟩ : ∃ S, sgS b.data.toList = S := ⟨_, rfl⟩
  obtain ⟨rc, n, wh⟩ := S
  rw [hS] at HC hsg
  rw [hD] at hsg hsl ⊢
  simp only at HC hsg
  obtain ⟨d1, d2, d3⟩ := D
  simp only at hsg hsl
  obtain ⟨rfl, rfl⟩ := hsg
  have hn : n ≤ b.size := by rw [← hl]; exact hsl.1
  have HD : Hid ((n = 0 → rc = rc0 ∧ d3 = 250) ∧ (n ≠ 0 → d3 = 0)) := ⟨fun h => by have := hsl.2.1 h; simp only [Prod.mk.injEq] at this; exact ⟨this.1, this.2.2⟩, hsl.2.2⟩
  have H0 : Hid (Below W.heap.size W X0 ∧ Full X0 R0 28 rcZ ∧ W.heap.size = R0) := ⟨b0, f0, hR0⟩
  have qn : (n : Int) ≤ (b.size : Int) := by omega
  clear hsl hD hS b0 f0 hn
  subst hX0
  go_enter Tryd.func11, Tryd.ntmps11
  go_wp2_with fail
  refine HC.mono ?_
  rintro e w2 ⟨⟨v, rfl, hv⟩, hb2⟩
  obtain ⟨ob, q, c, rfl, hob, ho⟩ := hv.opn
  obtain ⟨m, hm⟩ : ∃ m, rc.evs.length = m := ⟨_, rfl⟩
  obtain ⟨ph, hph⟩ : ∃ ph, rc.ph = ph := ⟨_, rfl⟩
  obtain ⟨tr, htr⟩ : ∃ tr, rc.tr = tr := ⟨_, rfl⟩
  obtain ⟨inp, hinp⟩ : ∃ inp, rc.inp = inp := ⟨_, rfl⟩
  rw [hm, hph, htr, hinp]
  obtain ⟨X2, hX2⟩ : ∃ X, w2.alloc (.cells #[.int .i64 ph, .int .i64 tr, .string ob, .int .i64 inp, .slice q m c] 28) = X := ⟨_, rfl⟩
  obtain ⟨P, hP⟩ : ∃ P, w2.heap.size = P := ⟨_, rfl⟩
  have n2 : Below w2.heap.size w2 X2 := by rw [← hX2]; exact (Below.refl _ _).alloc (Nat.le_refl _) _
  have f2 : Full X2 P 28 [.int .i64 ph, .int .i64 tr, .string ob, .int .i64 inp, .slice q m c] := by rw [← hX2, ← hP]; exact Full.new w2 _ _
  have nn := hb2.trans (n2.mono hb2.size)
  have fR := H0.out.2.1.next nn
  have bR := H0.out.1.trans (nn.mono H0.out.1.size)
  have oR : X2.ownsRow W.heap.size 37 6 (.slice q m c) rc.evs.length (rc.evs.flatMap ec) := by rw [← hm]; exact own_down (own_next ho n2) H0.out.1.size
  have HR : Hid (Full X2 R0 28 rcZ ∧ Below W.heap.size W X2 ∧ X2.ownsRow W.heap.size 37 6 (.slice q m c) rc.evs.length (rc.evs.flatMap ec) ∧ ob.data.toList = rc.out ∧ rc.ph = ph ∧ rc.tr = tr ∧ rc.inp = inp) := ⟨fR, bR, oR, hob, hph, htr, hinp⟩
  obtain ⟨⟨⟨p0, -⟩, ⟨p1, -⟩, p2, -⟩, ⟨p3, -⟩, p4, -⟩ := f2.five2
  unfold rcZ at fR
  obtain ⟨⟨⟨z0, y0⟩, ⟨z1, y1⟩, z2, y2⟩, ⟨z3, y3⟩, z4, y4⟩ := fR.five2
  clear HC hv hb2 ho hm hph htr hinp n2 f2 nn fR bR oR hob
  by_cases hgo : n = 0
  · subst hgo
    obtain ⟨rfl, rfl⟩ := HD.out.1 rfl
    have f6 : Full (X2.setCells R0 0 [.int .i64 0, .int .i64 0, .string ⟨#[]⟩, .int .i64 0, .slice none 0 0]) R0 28 [.int .i64 0, .int .i64 0, .string ⟨#[]⟩, .int .i64 0, .slice none 0 0] := Full.put (a := []) (b := rcZ) (d := []) _ HR.out.1 rfl
    have b6 : Below W.heap.size W (X2.setCells R0 0 [.int .i64 0, .int .i64 0, .string ⟨#[]⟩, .int .i64 0, .slice none 0 0]) := below_sets HR.out.2.1 (Nat.le_of_eq H0.out.2.2) _ _
    simp only [World.setCells, Nat.zero_add, Nat.reduceAdd] at f6 b6
    have HX : Hid (_ ∧ _) := ⟨f6, b6⟩
    clear f6 b6 HD HR
    go_wp2
    first | (change bodyPost Tryd.prog Tryd.f11 _ Exit.ret _ _) | (simp only [Exit.noGoto])
    refine bodyPost_ret (ret_rsal HX.out.1 rfl rfl rfl) rfl ?_
    exact ⟨⟨_, rfl, RcA.zero _ _⟩, by first | exact HX.out.2 | (rw [← H0.out.2.2]; exact HX.out.2)⟩
  · obtain rfl := HD.out.2 hgo
    have q1 : ((n : Int) == 0) = false := beq_eq_false_iff_ne.2 (by omega)
    have q2 : ¬ (n : Int) = 0 := by omega
    have f6 : Full (X2.setCells R0 0 [.int .i64 ph, .int .i64 tr, .string ob, .int .i64 inp, .slice q m c]) R0 28 [.int .i64 ph, .int .i64 tr, .string ob, .int .i64 inp, .slice q m c] := Full.put (a := []) (b := rcZ) (d := []) _ HR.out.1 rfl
    have b6 : Below W.heap.size W (X2.setCells R0 0 [.int .i64 ph, .int .i64 tr, .string ob, .int .i64 inp, .slice q m c]) := below_sets HR.out.2.1 (Nat.le_of_eq H0.out.2.2) _ _
    have r6 : RcA W.heap.size (X2.setCells R0 0 [.int .i64 ph, .int .i64 tr, .string ob, .int .i64 inp, .slice q m c]) rc (.agg #[.int .i64 ph, .int .i64 tr, .string ob, .int .i64 inp, .slice q m c]) := ⟨.slice q m c, by rw [← sV_at HR.out.2.2.2.1, HR.out.2.2.2.2.1, HR.out.2.2.2.2.2.1, HR.out.2.2.2.2.2.2], own_same HR.out.2.2.1 fun g hg => sets_heap (by rintro rfl; exact own_ne HR.out.2.2.1 (b := g) (t := 28) (m := 5) ⟨_, HR.out.1, by simp [rcZ]⟩ (by decide) hg) _ _ _⟩
    simp only [World.setCells, Nat.zero_add, Nat.reduceAdd] at f6 r6 b6
    have HX : Hid (_ ∧ _ ∧ _) := ⟨f6, r6, b6⟩
    clear f6 r6 b6 HD HR
    go_wp2
    first | (change bodyPost Tryd.prog Tryd.f11 _ Exit.ret _ _) | (simp only [Exit.noGoto])
    refine bodyPost_ret (ret_rsal HX.out.1 rfl rfl rfl) rfl ?_
    exact ⟨⟨_, rfl, by first | exact HX.out.2.1 | (rw [← H0.out.2.2]; exact HX.out.2.1)⟩, by first | exact HX.out.2.2 | (rw [← H0.out.2.2]; exact HX.out.2.2)⟩
end Go.Proofs.YtdmiciblfbkndaaDoor

namespace Go.Proofs.YtdmiciblfbkndaaDoor
open Go.RowKit

set_option maxRecDepth 100000 in
set_option maxHeartbeats 4000000 in
theorem reads_law (W : World) (b : ByteArray) (hT : SumT W) (hb : b.size ≤ 140737488355328) : Calls Tryd.prog 4 #[.string b] W fun e w' => e = .returned (.bool true) ∧ Below W.heap.size W w' := by
  have hdr := dec_rd (b := b.data.toList) (by rw [← Lib.size_eq]; exact hb)
  have hsr := sal_rd (b := b.data.toList) (by rw [← Lib.size_eq]; exact hb)
  have HD : ∀ w, SumT w → (Calls Tryd.prog 6 #[.string b] w fun e w' => (∃ v, e = .returned (.tuple #[v, .int .i64 (decS b.data.toList).2]) ∧ RcA w.heap.size w' (decS b.data.toList).1 v) ∧ Below w.heap.size w w') ∧ (Calls Tryd.prog 10 #[.string b] w fun e w' => (∃ v, e = .returned (.tuple #[v, .int .i64 (decS b.data.toList).2]) ∧ RcA w.heap.size w' (decS b.data.toList).1 v) ∧ Below w.heap.size w w') := fun w h => ⟨decode_any w b h hb, rdecode_any w b hb⟩
  have HS : ∀ w, SumT w → (Calls Tryd.prog 7 #[.string b] w fun e w' => (∃ v, e = .returned (.tuple #[v, .int .i64 ((salS b.data.toList).2.1 : Int), .int .i64 (salS b.data.toList).2.2]) ∧ RcA w.heap.size w' (salS b.data.toList).1 v) ∧ Below w.heap.size w w') ∧ (Calls Tryd.prog 11 #[.string b] w fun e w' => (∃ v, e = .returned (.tuple #[v, .int .i64 ((salS b.data.toList).2.1 : Int), .int .i64 (salS b.data.toList).2.2]) ∧ RcA w.heap.size w' (salS b.data.toList).1 v) ∧ Below w.heap.size w w') := fun w h => ⟨salvage_any w b h hb, rsalvage_any w b hb⟩
  generalize decS b.data.toList = D at hdr HD
  generalize salS b.data.toList = S at hsr HS
  obtain ⟨rd, ed⟩ := D
  obtain ⟨rs, nn, es⟩ := S
  simp only at hdr HD hsr HS
  have HDc : Hid _ := HD
  have HSc : Hid _ := HS
  have HT : Hid (SumT W) := hT
  have HRd : Hid (rd.evs.length ≤ 140737488355328 ∧ rs.evs.length ≤ 140737488355328) := ⟨by have := hdr.n; omega, by have := hsr.n; omega⟩
  have HA := (HD W hT).1
  clear HD HS hdr hsr hT hb
  go_enter Tryd.func4, Tryd.ntmps4
  go_wp2_with fail
  refine HA.mono ?_
  rintro e w2 ⟨⟨v, rfl, hv⟩, hb2⟩
  obtain ⟨ob, q, c, rfl, hob, ho⟩ := hv.opn
  obtain ⟨X2, hX2⟩ : ∃ X, w2.alloc (.cells #[.int .i64 rd.ph, .int .i64 rd.tr, .string ob, .int .i64 rd.inp, .slice q rd.evs.length c] 28) = X := ⟨_, rfl⟩
  obtain ⟨A, hAe⟩ : ∃ A, w2.heap.size = A := ⟨_, rfl⟩
  have n2 : Below w2.heap.size w2 X2 := by rw [← hX2]; exact (Below.refl _ _).alloc (Nat.le_refl _) _
  have H2 : Hid (Full X2 A 28 [.int .i64 rd.ph, .int .i64 rd.tr, .string ob, .int .i64 rd.inp, .slice q rd.evs.length c] ∧ Row X2 X2.heap.size q rd.evs.length (rd.evs.flatMap ec) ∧ Below W.heap.size W X2 ∧ ob.data.toList = rd.out) := ⟨by rw [← hX2, ← hAe]; exact Full.new w2 _ _, row_of_own (own_next ho n2), hb2.trans (n2.mono hb2.size), hob⟩
  have HB := (HDc.out X2 (HT.out.next H2.out.2.2.1)).2
  clear HA hv hb2 ho hob n2
  go_wp2_with fail
  refine HB.mono ?_
  rintro e w3 ⟨⟨v, rfl, hv⟩, hb3⟩
  obtain ⟨ob2, q3, c3, rfl, hob2, ho⟩ := hv.opn
  obtain rfl : ob2 = ob := ByteArray.ext (Array.ext' (by rw [hob2, H2.out.2.2.2]))
  obtain ⟨X3, hX3⟩ : ∃ X, w3.alloc (.cells #[.int .i64 rd.ph, .int .i64 rd.tr, .string ob2, .int .i64 rd.inp, .slice q3 rd.evs.length c3] 28) = X := ⟨_, rfl⟩
  obtain ⟨B, hBe⟩ : ∃ B, w3.heap.size = B := ⟨_, rfl⟩
  have n3 : Below w3.heap.size w3 X3 := by rw [← hX3]; exact (Below.refl _ _).alloc (Nat.le_refl _) _
  have nn3 := hb3.trans (n3.mono hb3.size)
  have HM := same_yes X3 rd.ph rd.tr ob2 rd.inp rd.evs q q3 c c3 ((H2.out.2.1.below nn3 (Nat.le_refl _)).up nn3.size) (row_of_own (own_next ho n3)) HRd.out.1
  unfold recC at HM
  have H3 : Hid (Full X3 A 28 [.int .i64 rd.ph, .int .i64 rd.tr, .string ob2, .int .i64 rd.inp, .slice q rd.evs.length c] ∧ Full X3 B 28 [.int .i64 rd.ph, .int .i64 rd.tr, .string ob2, .int .i64 rd.inp, .slice q3 rd.evs.length c3] ∧ Below W.heap.size W X3) := ⟨H2.out.1.next nn3, by rw [← hX3, ← hBe]; exact Full.new w3 _ _, H2.out.2.2.1.trans (nn3.mono H2.out.2.2.1.size)⟩
  obtain ⟨⟨⟨p0, -⟩, ⟨p1, -⟩, p2, -⟩, ⟨p3, -⟩, p4, -⟩ := H3.out.1.five2
  obtain ⟨⟨⟨z0, -⟩, ⟨z1, -⟩, z2, -⟩, ⟨z3, -⟩, z4, -⟩ := H3.out.2.1.five2
  clear HB hv hb3 ho hob2 n3 nn3 H2
  go_wp2_with fail
  refine HM.mono ?_
  rintro e w4 ⟨rfl, hb4⟩
  have H4 : Hid (Below W.heap.size W w4) := H3.out.2.2.trans (hb4.mono H3.out.2.2.size)
  have HE := (HSc.out w4 (HT.out.next H4.out)).1
  clear HM hb4 H3 p0 p1 p2 p3 p4 z0 z1 z2 z3 z4 hX2 hX3
  go_wp2_with fail
  refine HE.mono ?_
  rintro e w5 ⟨⟨v, rfl, hv⟩, hb5⟩
  obtain ⟨oc, q5, c5, rfl, hoc, ho⟩ := hv.opn
  obtain ⟨X5, hX5⟩ : ∃ X, w5.alloc (.cells #[.int .i64 rs.ph, .int .i64 rs.tr, .string oc, .int .i64 rs.inp, .slice q5 rs.evs.length c5] 28) = X := ⟨_, rfl⟩
  obtain ⟨C, hCe⟩ : ∃ C, w5.heap.size = C := ⟨_, rfl⟩
  have n5 : Below w5.heap.size w5 X5 := by rw [← hX5]; exact (Below.refl _ _).alloc (Nat.le_refl _) _
  have nn5 := hb5.trans (n5.mono hb5.size)
  have H5 : Hid (Full X5 C 28 [.int .i64 rs.ph, .int .i64 rs.tr, .string oc, .int .i64 rs.inp, .slice q5 rs.evs.length c5] ∧ Row X5 X5.heap.size q5 rs.evs.length (rs.evs.flatMap ec) ∧ Below W.heap.size W X5 ∧ oc.data.toList = rs.out) := ⟨by rw [← hX5, ← hCe]; exact Full.new w5 _ _, row_of_own (own_next ho n5), H4.out.trans (nn5.mono H4.out.size), hoc⟩
  have HF := (HSc.out X5 (HT.out.next H5.out.2.2.1)).2
  clear HE hv hb5 ho hoc n5 nn5 H4
  go_wp2_with fail
  refine HF.mono ?_
  rintro e w6 ⟨⟨v, rfl, hv⟩, hb6⟩
  obtain ⟨oc2, q6, c6, rfl, hoc2, ho⟩ := hv.opn
  obtain rfl : oc2 = oc := ByteArray.ext (Array.ext' (by rw [hoc2, H5.out.2.2.2]))
  obtain ⟨X6, hX6⟩ : ∃ X, w6.alloc (.cells #[.int .i64 rs.ph, .int .i64 rs.tr, .string oc2, .int .i64 rs.inp, .slice q6 rs.evs.length c6] 28) = X := ⟨_, rfl⟩
  obtain ⟨E, hEe⟩ : ∃ E, w6.heap.size = E := ⟨_, rfl⟩
  have n6 : Below w6.heap.size w6 X6 := by rw [← hX6]; exact (Below.refl _ _).alloc (Nat.le_refl _) _
  have nn6 := hb6.trans (n6.mono hb6.size)
  have HM := same_yes X6 rs.ph rs.tr oc2 rs.inp rs.evs q5 q6 c5 c6 ((H5.out.2.1.below nn6 (Nat.le_refl _)).up nn6.size) (row_of_own (own_next ho n6)) HRd.out.2
  unfold recC at HM
  have H6 : Hid (Full X6 C 28 [.int .i64 rs.ph, .int .i64 rs.tr, .string oc2, .int .i64 rs.inp, .slice q5 rs.evs.length c5] ∧ Full X6 E 28 [.int .i64 rs.ph, .int .i64 rs.tr, .string oc2, .int .i64 rs.inp, .slice q6 rs.evs.length c6] ∧ Below W.heap.size W X6) := ⟨H5.out.1.next nn6, by rw [← hX6, ← hEe]; exact Full.new w6 _ _, H5.out.2.2.1.trans (nn6.mono H5.out.2.2.1.size)⟩
  obtain ⟨⟨⟨p0, -⟩, ⟨p1, -⟩, p2, -⟩, ⟨p3, -⟩, p4, -⟩ := H6.out.1.five2
  obtain ⟨⟨⟨z0, -⟩, ⟨z1, -⟩, z2, -⟩, ⟨z3, -⟩, z4, -⟩ := H6.out.2.1.five2
  clear HF hv hb6 ho hoc2 n6 nn6 H5
  go_wp2_with fail
  refine HM.mono ?_
  rintro e w7 ⟨rfl, hb7⟩
  have H7 : Hid (Below W.heap.size W w7) := H6.out.2.2.trans (hb7.mono H6.out.2.2.size)
  have HK := known_any w7 (HT.out.next H7.out)
  clear HM hb7 H6 p0 p1 p2 p3 p4 z0 z1 z2 z3 z4 hX5 hX6
  go_wp2_with fail
  refine HK.mono ?_
  rintro e w8 ⟨rfl, hb8⟩
  have H8 : Hid (Below W.heap.size W w8) := H7.out.trans (hb8.mono H7.out.size)
  clear HK hb8 H7
  go_wp2_with fail
  go_ret
  exact ⟨rfl, H8.out⟩
end Go.Proofs.YtdmiciblfbkndaaDoor
