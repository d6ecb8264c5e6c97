import Derived.Test.YtnecnchdffmhbaaDoorE00
import Derived.Test.YtnecnchdffmhbaaDoorE01
import Derived.Test.YtnecnchdffmhbaaDoorE11
import Derived.Test.YtnecnchdffmhbaaDoorO20
import Derived.Test.YtnecnchdffmhbaaDoorO21
namespace Go.Proofs.YtnecnchdffmhbaaDoor
open Go.RowKit

/-- An event whose node is one more. -/
def bmp (e : Ev) : Ev := { e with n := IntKind.i64.wrap (e.n + 1) }
/-- The twin's list on the way, up to a place. -/
def mid (L : List Ev) (i : Nat) : List Ev := (L.take i).map bmp ++ L.drop i
theorem mid_zero (L : List Ev) : mid L 0 = L := rfl
theorem mid_end (L : List Ev) : mid L L.length = L.map bmp := by
  unfold mid
  rw [List.take_length, List.drop_length, List.append_nil]
theorem put_mid {w : World} {G : Nat} {L : List Ev} {i : Nat} {e : Ev} {t : List Value} (h : Full w G 54 ((mid L i).flatMap ec ++ t)) (he : L[i]? = some e) :
    (w.cell? ⟨G, i * 6 + 1, none⟩ = some (.int .i64 e.n) ∧ w.frozen? ⟨G, i * 6 + 1, none⟩ = false) ∧ Full (w.setCell ⟨G, i * 6 + 1, none⟩ (.int .i64 (IntKind.i64.wrap (e.n + 1)))) G 54 ((mid L (i + 1)).flatMap ec ++ t) := by
  obtain ⟨hl, hx⟩ := List.getElem?_eq_some_iff.1 he
  have hd : L.drop i = e :: L.drop (i + 1) := by rw [List.drop_eq_getElem_cons hl, hx]
  obtain ⟨pre, hpre⟩ : ∃ p, ((L.take i).map bmp).flatMap ec = p := ⟨_, rfl⟩
  have hpl : pre.length = i * 6 := by rw [← hpre, ec_flat, List.length_map, List.length_take, Nat.min_eq_left (by omega)]
  have e1 : (mid L i).flatMap ec ++ t = (pre ++ [.int .i64 e.k]) ++ (.int .i64 e.n :: ([sV e.nm, .int .i64 e.vk, .int .i64 e.vn, sV e.vs] ++ (L.drop (i + 1)).flatMap ec ++ t)) := by
    unfold mid
    rw [hd, List.flatMap_append, hpre, List.flatMap_cons]
    simp [ec]
  have e2 : (mid L (i + 1)).flatMap ec ++ t = (pre ++ [.int .i64 e.k]) ++ (.int .i64 (IntKind.i64.wrap (e.n + 1)) :: ([sV e.nm, .int .i64 e.vk, .int .i64 e.vn, sV e.vs] ++ (L.drop (i + 1)).flatMap ec ++ t)) := by
    unfold mid
    rw [List.take_add_one, he, List.map_append, List.append_assoc, List.flatMap_append, hpre]
    simp [ec, bmp]
  rw [e1] at h
  have hlen : (pre ++ [Value.int .i64 e.k]).length = i * 6 + 1 := by rw [List.length_append, hpl]; rfl
  have hput := Full.put1 h (.int .i64 (IntKind.i64.wrap (e.n + 1)))
  rw [hlen, ← e2] at hput
  refine ⟨?_, hput⟩
  exact h.cell (i * 6 + 1) _ (by rw [List.getElem?_append_right (by rw [hlen]; exact Nat.le_refl _), hlen, Nat.sub_self]; rfl)
/-- Where the law stands in its loop. -/
structure ElI (W : World) (A B G : Nat) (r x : List Value) (L : List Ev) (t : List Value) (i : Nat) (w : World) : Prop where
  a : Full w A 28 r
  b : Full w B 28 x
  g : Full w G 54 ((mid L i).flatMap ec ++ t)
  bel : Below W.heap.size W w
theorem ElI.next {W : World} {A B G : Nat} {r x : List Value} {L : List Ev} {t : List Value} {i : Nat} {w w' : World} (h : ElI W A B G r x L t i w) (k : Below w.heap.size w w') : ElI W A B G r x L t i w' :=
  ⟨h.a.next k, h.b.next k, h.g.next k, h.bel.trans (k.mono h.bel.size)⟩
set_option maxRecDepth 100000 in
set_option maxHeartbeats 4000000 in
theorem encodes_law (W : World) (ph tr : Int) (out : ByteArray) (inp : Int) (q : Option Addr) (cap : Nat) (L : List Ev) (hT : SumT W) (hI : RcIn W q cap L) (hm : L.length ≤ 2199023255488) (ho : out.size ≤ 140737488355328) :
    Calls Tryd.prog 8 #[.agg (recC ph tr out inp q L.length cap)] W fun e w' => e = .returned (.bool true) ∧ Below W.heap.size W w' := by
  obtain ⟨X1, hX1⟩ : ∃ X, W.alloc (.cells (recC ph tr out inp q L.length cap) 28) = X := ⟨_, rfl⟩
  obtain ⟨A, hA⟩ : ∃ A, W.heap.size = A := ⟨_, rfl⟩
  have b1 : Below W.heap.size W X1 := by rw [← hX1]; exact (Below.refl _ W).alloc (Nat.le_refl _) _
  have f1 : Full X1 A 28 [.int .i64 ph, .int .i64 tr, .string out, .int .i64 inp, .slice q L.length cap] := by rw [← hX1, ← hA]; exact Full.new W _ _
  have R1 : Row X1 X1.heap.size q L.length (L.flatMap ec) := (hI.row.below b1 (Nat.le_refl _)).up b1.size
  have HTw := twin_sign X1 ph tr out inp q cap L R1 hm
  obtain ⟨n, hln⟩ : ∃ n, L.length = n := ⟨_, rfl⟩
  have HI : Hid (RcIn W q cap L ∧ L.length = n ∧ n ≤ 2199023255488 ∧ out.size ≤ 140737488355328) := ⟨hI, hln, hln ▸ hm, ho⟩
  have HT : Hid (SumT W) := hT
  have HA : Hid (W.heap.size = A) := hA
  rw [hln] at hX1 f1 HTw R1 ⊢
  unfold recC at hX1 HTw ⊢
  have H1 : Hid (Below W.heap.size W X1 ∧ Full X1 A 28 [.int .i64 ph, .int .i64 tr, .string out, .int .i64 inp, .slice q n cap]) := ⟨b1, f1⟩
  have qn : (n : Int) ≤ 2199023255488 := by have := HI.out.2.2.1; omega
  obtain ⟨⟨⟨r0, -⟩, ⟨r1, -⟩, r2, -⟩, ⟨r3, -⟩, r4, -⟩ := f1.five2
  clear b1 f1 R1 hI hm ho hln hT
  go_enter Tryd.func8, Tryd.ntmps8
  go_wp2_with fail
  refine HTw.mono ?_
  rintro e w2 ⟨G, rfl, hq2⟩
  obtain ⟨rest, fG⟩ := hq2.out.2.1
  have b2 : Below X1.heap.size X1 w2 := hq2.out.2.2
  have hGge : W.heap.size ≤ G := by have := hq2.out.1; have := H1.out.1.size; omega
  obtain ⟨t, ht⟩ : ∃ t, [.int .i64 77, .int .i64 0, .string ⟨#[]⟩, .int .i64 0, .int .i64 0, .string ⟨#[]⟩] ++ rest = t := ⟨_, rfl⟩
  have HTt : Hid ([.int .i64 77, .int .i64 0, .string ⟨#[]⟩, .int .i64 0, .int .i64 0, .string ⟨#[]⟩] ++ rest = t ∧ W.heap.size ≤ G) := ⟨ht, hGge⟩
  rw [ht] at fG
  obtain ⟨X3, hX3⟩ : ∃ X, w2.alloc (.cells #[.int .i64 ph, .int .i64 tr, .string out, .int .i64 inp, .slice (some ⟨G, 0, none⟩) n (n + 1)] 28) = X := ⟨_, rfl⟩
  obtain ⟨B, hB⟩ : ∃ B, w2.heap.size = B := ⟨_, rfl⟩
  have n3 : Below w2.heap.size w2 X3 := by rw [← hX3]; exact (Below.refl _ _).alloc (Nat.le_refl _) _
  have n13 : Below X1.heap.size X1 X3 := b2.trans (n3.mono b2.size)
  have H3 : Hid (ElI W A B G [.int .i64 ph, .int .i64 tr, .string out, .int .i64 inp, .slice q n cap] [.int .i64 ph, .int .i64 tr, .string out, .int .i64 inp, .slice (some ⟨G, 0, none⟩) n (n + 1)] L t 0 X3) := ⟨H1.out.2.next n13, by rw [← hX3, ← hB]; exact Full.new w2 _ _, fG.next n3, H1.out.1.trans (n13.mono H1.out.1.size)⟩
  have HBg : Hid (W.heap.size ≤ B) := by show _ ≤ _; have := H1.out.1.size; have := b2.size; omega
  have HRw : Hid (∀ w, Below W.heap.size W w → Row w w.heap.size q L.length (L.flatMap ec)) := fun w hw => (HI.out.1.row.below hw (Nat.le_refl _)).up hw.size
  have HEn : Hid (∀ (w : World) (M : List Ev), M.length = n → (∀ e ∈ M, EvSz e) → (∀ e ∈ M, -9223372036854775808 ≤ e.vn ∧ e.vn ≤ 9223372036854775807) → SumT w → (∃ t, Full w G 54 (M.flatMap ec ++ t)) → Calls Tryd.prog 10 #[.agg #[.int .i64 ph, .int .i64 tr, .string out, .int .i64 inp, .slice (some ⟨G, 0, none⟩) n (n + 1)]] w (EncP w ph tr out inp M) ∧ Calls Tryd.prog 18 #[.agg #[.int .i64 ph, .int .i64 tr, .string out, .int .i64 inp, .slice (some ⟨G, 0, none⟩) n (n + 1)]] w (EncP w ph tr out inp M)) := fun w M hM hs hv hS ⟨t, hf⟩ => by
    have hin : RcIn w (some ⟨G, 0, none⟩) (n + 1) M := ⟨fun _ => ⟨G, 0, rfl, hf.lt, hf.range⟩, by omega, hs, hv, by have := HI.out.2.2.1; omega⟩
    have h1 := encode_any w ph tr out inp (some ⟨G, 0, none⟩) (n + 1) M hS hin HI.out.2.2.2
    have h2 := rencode_any w ph tr out inp (some ⟨G, 0, none⟩) (n + 1) M hin HI.out.2.2.2
    rw [hM] at h1 h2
    exact ⟨h1, h2⟩
  have HE := (HEn.out X3 L HI.out.2.1 HI.out.1.sz HI.out.1.vn (HT.out.next H3.out.bel) ⟨t, H3.out.g⟩).1
  obtain ⟨er, her⟩ : ∃ er, (encS ⟨ph, tr, out.data.toList, inp, L⟩).2 = er := ⟨_, rfl⟩
  obtain ⟨D, hD⟩ : ∃ D : ByteArray, (⟨(encS ⟨ph, tr, out.data.toList, inp, L⟩).1.toArray⟩ : ByteArray) = D := ⟨_, rfl⟩
  unfold EncP at HE
  rw [her, hD] at HE
  obtain ⟨⟨⟨d0, -⟩, ⟨d1, -⟩, d2, -⟩, ⟨d3, -⟩, d4, -⟩ := H3.out.b.five2
  clear HTw hq2 fG b2 n3 n13 H1 hX1 r0 r1 r2 r3 r4 ht hGge
  go_wp2_with fail
  refine HE.mono ?_
  rintro e w3 ⟨rfl, hb3⟩
  have H4 : Hid (ElI W A B G [.int .i64 ph, .int .i64 tr, .string out, .int .i64 inp, .slice q n cap] [.int .i64 ph, .int .i64 tr, .string out, .int .i64 inp, .slice (some ⟨G, 0, none⟩) n (n + 1)] L t 0 w3) := H3.out.next hb3
  have HE2 := rencode_any w3 ph tr out inp q cap L ⟨HRw.out w3 H4.out.bel, HI.out.1.cap, HI.out.1.sz, HI.out.1.vn, HI.out.1.most⟩ HI.out.2.2.2
  unfold EncP recC at HE2
  rw [HI.out.2.1, her, hD] at HE2
  clear HE hb3 H3 hX3 hB d0 d1 d2 d3 d4
  obtain ⟨⟨⟨r0, -⟩, ⟨r1, -⟩, r2, -⟩, ⟨r3, -⟩, r4, -⟩ := H4.out.a.five2
  go_wp2_with fail
  refine HE2.mono ?_
  rintro e w4 ⟨rfl, hb4⟩
  have H5 : Hid (ElI W A B G [.int .i64 ph, .int .i64 tr, .string out, .int .i64 inp, .slice q n cap] [.int .i64 ph, .int .i64 tr, .string out, .int .i64 inp, .slice (some ⟨G, 0, none⟩) n (n + 1)] L t 0 w4) := H4.out.next hb4
  have HL := left_yes w4 ph tr out inp L G q cap rest (by rw [HTt.out.1]; exact H5.out.g) (HRw.out w4 H5.out.bel) (by rw [HI.out.2.1]; have := HI.out.2.2.1; omega)
  unfold recC at HL
  rw [HI.out.2.1] at HL
  clear HE2 hb4 H4 r0 r1 r2 r3 r4 her hD
  obtain ⟨⟨⟨r0, -⟩, ⟨r1, -⟩, r2, -⟩, ⟨r3, -⟩, r4, -⟩ := H5.out.a.five2
  obtain ⟨⟨⟨d0, -⟩, ⟨d1, -⟩, d2, -⟩, ⟨d3, -⟩, d4, -⟩ := H5.out.b.five2
  go_wp2_with fail
  refine HL.mono ?_
  rintro e w5 ⟨rfl, hb5⟩
  have H6 : Hid (ElI W A B G [.int .i64 ph, .int .i64 tr, .string out, .int .i64 inp, .slice q n cap] [.int .i64 ph, .int .i64 tr, .string out, .int .i64 inp, .slice (some ⟨G, 0, none⟩) n (n + 1)] L t 0 w5) := H5.out.next hb5
  clear HL hb5 H5 r0 r1 r2 r3 r4 d0 d1 d2 d3 d4
  go_wp2_with fail
  go_loopw [8] (fun v wr => ∃ i : Nat, v = .int .i64 (i : Int) ∧ i ≤ n ∧ Hid (ElI W A B G [.int .i64 ph, .int .i64 tr, .string out, .int .i64 inp, .slice q n cap] [.int .i64 ph, .int .i64 tr, .string out, .int .i64 inp, .slice (some ⟨G, 0, none⟩) n (n + 1)] L t i wr)) (fun v _ => n - (intOf v).toNat)
  case atStart => exact ⟨0, rfl, Nat.zero_le _, H6⟩
  case round =>
    obtain ⟨i, rfl, him, HJ⟩ := hrel
    clear H6
    obtain ⟨⟨⟨d0, -⟩, ⟨d1, -⟩, d2, -⟩, ⟨d3, -⟩, d4, -⟩ := HJ.out.b.five2
    by_cases hlt : i < n
    · have qi : (i : Int) < (n : Int) := by omega
      have q0 : (0 : Int) ≤ (i : Int) := by omega
      obtain ⟨e, he⟩ : ∃ e, L[i]? = some e := ⟨L[i]'(by have := HI.out.2.1; omega), List.getElem?_eq_getElem _⟩
      obtain ⟨⟨x1, y1⟩, hput⟩ := put_mid HJ.out.g he
      obtain ⟨en, hen⟩ : ∃ en, e.n = en := ⟨_, rfl⟩
      rw [hen] at x1 hput
      have HN : Hid (ElI W A B G [.int .i64 ph, .int .i64 tr, .string out, .int .i64 inp, .slice q n cap] [.int .i64 ph, .int .i64 tr, .string out, .int .i64 inp, .slice (some ⟨G, 0, none⟩) n (n + 1)] L t (i + 1) (wr.setCell ⟨G, i * 6 + 1, none⟩ (.int .i64 (IntKind.i64.wrap (en + 1))))) :=
        ⟨HJ.out.a.other1 (HJ.out.a.ne HJ.out.g (by decide)), HJ.out.b.other1 (HJ.out.b.ne HJ.out.g (by decide)), hput, HJ.out.bel.setCell (p := ⟨G, i * 6 + 1, none⟩) HTt.out.2 _⟩
      have HW : Hid (wrap64 (en + 1) = IntKind.i64.wrap (en + 1)) := by first | rfl | (show wrap64 _ = IntKind.i64.wrap _; rw [IntKind.wrap_i64]; rfl) | (show wrap64 _ = IntKind.i64.wrap _; rw [IntKind.wrap_i64]; unfold wrap64; omega)
      clear hput he hen HJ
      go_wp2_with fail
      exact ⟨⟨i + 1, by go_num, by omega, (by rw [HW.out]; exact HN)⟩, by simp [intOf]; omega⟩
    · obtain rfl : i = n := by omega
      have qi : ¬ (i : Int) < (i : Int) := by omega
      have hg := HJ.out.g
      rw [← HI.out.2.1, mid_end] at hg
      have hML : (L.map bmp).length = i := by rw [List.length_map]; exact HI.out.2.1
      have hMs : ∀ e ∈ L.map bmp, EvSz e := fun e he => by
        obtain ⟨d, hd, rfl⟩ := List.mem_map.1 he
        exact HI.out.1.sz d hd
      have hMv : ∀ e ∈ L.map bmp, -9223372036854775808 ≤ e.vn ∧ e.vn ≤ 9223372036854775807 := fun e he => by
        obtain ⟨d, hd, rfl⟩ := List.mem_map.1 he
        exact HI.out.1.vn d hd
      have HEn2 : Hid (∀ w, Below wr.heap.size wr w → Calls Tryd.prog 10 #[.agg #[.int .i64 ph, .int .i64 tr, .string out, .int .i64 inp, .slice (some ⟨G, 0, none⟩) i (i + 1)]] w (EncP w ph tr out inp (L.map bmp)) ∧ Calls Tryd.prog 18 #[.agg #[.int .i64 ph, .int .i64 tr, .string out, .int .i64 inp, .slice (some ⟨G, 0, none⟩) i (i + 1)]] w (EncP w ph tr out inp (L.map bmp))) := fun w hw =>
        HEn.out w (L.map bmp) hML hMs hMv (HT.out.next (HJ.out.bel.trans (hw.mono HJ.out.bel.size))) ⟨t, hg.next hw⟩
      have HE := (HEn2.out wr (Below.refl _ _)).1
      obtain ⟨er2, her⟩ : ∃ er, (encS ⟨ph, tr, out.data.toList, inp, L.map bmp⟩).2 = er := ⟨_, rfl⟩
      obtain ⟨D2, hD⟩ : ∃ D : ByteArray, (⟨(encS ⟨ph, tr, out.data.toList, inp, L.map bmp⟩).1.toArray⟩ : ByteArray) = D := ⟨_, rfl⟩
      have HDe : Hid ((encS ⟨ph, tr, out.data.toList, inp, L.map bmp⟩).2 = er2 ∧ (⟨(encS ⟨ph, tr, out.data.toList, inp, L.map bmp⟩).1.toArray⟩ : ByteArray) = D2) := ⟨her, hD⟩
      unfold EncP at HE
      rw [her, hD] at HE
      clear hg hML hMs hMv her hD hlt
      go_wp2_with fail
      refine HE.mono ?_
      rintro e w6 ⟨rfl, hb6⟩
      have H7 := HJ.out.next hb6
      have HE2 := (HEn2.out w6 hb6).2
      unfold EncP at HE2
      rw [HDe.out.1, HDe.out.2] at HE2
      have HB6 : Hid (Below W.heap.size W w6) := H7.bel
      clear HE HJ d0 d1 d2 d3 d4
      obtain ⟨⟨⟨d0, -⟩, ⟨d1, -⟩, d2, -⟩, ⟨d3, -⟩, d4, -⟩ := H7.b.five2
      clear H7 hb6
      go_wp2_with fail
      refine HE2.mono ?_
      rintro e w7 ⟨rfl, hb7⟩
      have HB7 : Hid (Below W.heap.size W w7) := HB6.out.trans (hb7.mono HB6.out.size)
      have HK := known_any w7 (HT.out.next HB7.out)
      clear HE2 hb7 HB6 d0 d1 d2 d3 d4
      go_wp2_with fail
      refine HK.mono ?_
      rintro e w8 ⟨rfl, hb8⟩
      have HB8 : Hid (Below W.heap.size W w8) := HB7.out.trans (hb8.mono HB7.out.size)
      clear HK hb8 HB7
      go_wp2_with fail
      go_ret
      exact ⟨rfl, (by first | exact HB8.out | (rw [← HA.out]; exact HB8.out))⟩
end Go.Proofs.YtnecnchdffmhbaaDoor
