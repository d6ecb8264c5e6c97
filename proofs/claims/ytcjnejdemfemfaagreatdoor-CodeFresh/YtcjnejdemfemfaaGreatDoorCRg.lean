import Derived.Test.YtcjnejdemfemfaaGreatDoorCRf
namespace Go.Proofs.YtcjnejdemfemfaaGreatDoor
open Go.RowKit

/-- No two entries' sorts lie in one block. -/
def SepE (Es : List Em) : Prop := Es.Pairwise fun x y => ∀ g, x.2.1.map Addr.block = some g → y.2.1.map Addr.block ≠ some g
theorem own_eb (q : Option Addr) (n c : Nat) : (Value.slice q n c).ownBlock = q.map Addr.block := by cases q <;> rfl
theorem SepE.snoc {Es : List Em} {x : Em} {B : Nat} (h : SepE Es) (hE : ∀ y ∈ Es, ∀ g, y.2.1.map Addr.block = some g → g < B) (hx : ∀ g, x.2.1.map Addr.block = some g → B ≤ g) : SepE (Es ++ [x]) := by
  refine List.pairwise_append.2 ⟨h, List.pairwise_singleton _ _, fun y hy z hz g hg hz' => ?_⟩
  obtain rfl := List.mem_singleton.1 hz
  have h1 := hE y hy g hg
  have h2 := hx g hz'
  omega
theorem Rows.eb {W : World} {b : Nat} {iv ev' tv' : Value} {ins : List In} {Es : List Em} {txs : List ByteArray} (h : Rows W b iv ev' tv' ins Es txs) : ∀ y ∈ Es, ∀ g, y.2.1.map Addr.block = some g → g < W.heap.size := fun y hy g hg => ((h.sr y hy).lt g (by rw [own_eb]; exact hg)).2
/-- What code gives. -/
structure CdG (w W : World) (rb : Nat) (iq : Option Addr) (ia : Nat) (eq : Option Addr) (ea : Nat) (tq : Option Addr) (ta : Nat) (Es : List Em) (c : Cd) (st : Rs) : Prop where
  rd : Rd W rb st
  kp : Kp (fun y => y = rb) w W
  rows : Rows W w.heap.size (.slice iq c.ins.length ia) (.slice eq c.ens.length ea) (.slice tq c.txs.length ta) c.ins Es c.txs
  en : Es.map (·.1) = c.ens
  sp : SepE Es
abbrev zc : Array Value := cv (.slice none 0 0) (.slice none 0 0) (.slice none 0 0) 0
set_option maxRecDepth 100000 in
set_option maxHeartbeats 8000000 in
theorem code_f (w : World) (rb : Nat) (st : Rs) (h : Rd w rb st) (ht : Tabs w) (hr : 10 ≤ rb) :
    Calls Tryz.prog 24 #[.pointer (some ⟨rb, 0, none⟩)] w fun e w' => ∃ iq ia eq ea tq ta Es, e = .returned (codeV iq eq tq ia ea ta (rdCode st).1) ∧ Hid (CdG w w' rb iq ia eq ea tq ta Es (rdCode st).1 (rdCode st).2) := by
  obtain ⟨R, HR⟩ : ∃ R, Hid (R = rdCode st) := ⟨_, rfl⟩
  rw [← HR.out]
  have hE := rdCode_eq st
  have hrb := h.lt
  obtain ⟨W0, hW0⟩ : ∃ W0, W0 = w.alloc (.cells zc 26) := ⟨_, rfl⟩
  have nb : Below w.heap.size w W0 := by rw [hW0]; exact (Below.refl _ w).alloc (Nat.le_refl _) _
  have P0 : W0.heap[w.heap.size]? = some (.cells zc 26) := by rw [hW0]; exact World.alloc_heap_new w _
  have hz0 : W0.heap.size = w.heap.size + 1 := by rw [hW0]; simp
  have n1 := number_f W0 rb 1 st (h.next nb) (by decide)
  generalize hq : rdN 1 st = N1 at *
  obtain ⟨mn, st1⟩ := N1
  simp only at hE n1
  have HE : Hid (R = _) := HR.out.trans hE
  clear hE HR hq
  go_enter Tryz.func24, Tryz.ntmps24
  go_upto_region 1 with fail
  rw [← hW0]
  clear hW0
  go_wp2_with fail
  refine n1.mono ?_
  rintro e W1 ⟨rfl, hw1⟩
  obtain ⟨r1, k1⟩ := hw1.out
  have P1 := (k1.block w.heap.size (by omega) (by omega)).trans P0
  have hz1 : w.heap.size < W1.heap.size := by have := k1.size; omega
  obtain ⟨W2, hW2⟩ : ∃ W2, W2 = W1.alloc (.cells (cv (.slice none 0 0) (.slice none 0 0) (.slice none 0 0) mn) 26) := ⟨_, rfl⟩
  have nb2 : Below W1.heap.size W1 W2 := by rw [hW2]; exact (Below.refl _ W1).alloc (Nat.le_refl _) _
  have HM2 : Hid (Mk w W2 rb w.heap.size W1.heap.size zc (cv (.slice none 0 0) (.slice none 0 0) (.slice none 0 0) mn) 26 st1) :=
    ⟨r1.next nb2, ((Kp.of nb).trans k1 (fun _ _ q => q)).next nb2, (nb2.block _ hz1).trans P1, by rw [hW2]; exact World.alloc_heap_new W1 _, by omega, by omega, by omega, Nat.le_refl _, by omega⟩
  clear n1 P0 P1 hw1 k1 r1 nb nb2
  go_upto_region 2 with fail
  rw [← hW2]
  clear hW2
  generalize W1.heap.size = p3 at *
  have n2 := count_f W2 rb 1 60 st1 HM2.out.rd (by decide)
  have hk1 := rdC_le 1 60 (by decide) st1
  generalize rdC 1 60 st1 = N2 at *
  obtain ⟨ke, st2⟩ := N2
  simp only at n2 HE hk1
  go_wp2_with fail
  refine n2.mono ?_
  rintro e W3 ⟨rfl, hw3⟩
  have HM3 : Hid (Mk w W3 rb w.heap.size p3 zc (cv (.slice none 0 0) (.slice none 0 0) (.slice none 0 0) mn) 26 st2) := HM2.out.call hw3.out.1 hw3.out.2
  have hki : (ke : Int) ≤ 60 := by omega
  have HT : Hid (∀ W, Kp (fun x => x = rb) w W → Tabs W) := fun W hW => hW.tabs ht hr
  clear n2 hw3 HM2 ht h
  go_wp2_with fail
  go_loopw [9] (fun i wr => ∃ (j : Nat) (q : Option Addr) (cp : Nat) (Es : List Em), j ≤ ke ∧ i = .int .i64 (j : Int) ∧ Hid (Mk w wr rb w.heap.size p3 zc (cv (.slice none 0 0) (.slice q j cp) (.slice none 0 0) mn) 26 (rep rdE j st2).2) ∧ Hid (Rows wr w.heap.size (.slice none 0 0) (.slice q j cp) (.slice none 0 0) [] Es []) ∧ Hid (Es.map (·.1) = (rep rdE j st2).1) ∧ Hid (SepE Es)) (fun i _ => ke - (intOf i).toNat)
  case atStart => exact ⟨0, none, 0, [], Nat.zero_le _, rfl, HM3, Rows.nil _ _, rfl, List.Pairwise.nil⟩
  case round =>
    obtain ⟨j, q, cp, Es, hj, rfl, hM, hO, hEs, hSP⟩ := hrel
    have hEl : Es.length = j := by have := congrArg List.length hEs.out; rw [List.length_map, rep_len] at this; exact this
    by_cases hlt : j < ke
    case pos =>
      have HR1 : Hid ((rep rdE (j + 1) st2).1 = (rep rdE j st2).1 ++ [(rdE (rep rdE j st2).2).1] ∧ (rep rdE (j + 1) st2).2 = (rdE (rep rdE j st2).2).2) := rep_succ rdE j st2
      have bd : Below wr.heap.size wr wr.drew := (Below.refl _ wr).drew
      have hMd := hM.out.next bd
      have hOd := hO.out.next bd
      have n2 := entry_v wr.drew rb _ hMd.rd
      generalize rep rdE j st2 = RL at *
      obtain ⟨L, st5⟩ := RL
      simp only at n2 hM HR1 hMd hEs
      generalize rdE st5 = N2 at *
      obtain ⟨⟨nm, es, pr, so, rs⟩, st6⟩ := N2
      simp only at n2 HR1
      have n3 : Calls Tryz.prog 47 #[.pointer (some ⟨rb, 0, none⟩)] wr.drew fun e w' => ∃ v, e = .returned v ∧ (∃ q cp, v = .agg #[.string nm, .int .i64 es, .int .i64 pr, .slice q so.length cp, .int .i64 rs] ∧ Hid (EnG wr.drew w' rb (⟨nm, es, pr, so, rs⟩, q, cp) st6)) := n2
      clear n2
      obtain ⟨x3, -⟩ := blk_cell hM.out.b3 1 (.slice q j cp) rfl
      have HW8 : Hid (∀ W8 eq ep, EnG wr.drew W8 rb (⟨nm, es, pr, so, rs⟩, eq, ep) st6 → Mk w W8 rb w.heap.size p3 zc (cv (.slice none 0 0) (.slice q j cp) (.slice none 0 0) mn) 26 st6 ∧ Rows W8 w.heap.size (.slice none 0 0) (.slice q j cp) (.slice none 0 0) [] Es [] ∧ W8.ownsRow w.heap.size 41 1 (.slice eq so.length ep) so.length (sv so) ∧ Hid (SepE (Es ++ [(⟨nm, es, pr, so, rs⟩, eq, ep)]))) := fun W8 eq ep hw => ⟨hMd.call hw.rd hw.kp, hOd.kp hMd.rd hw.kp, own_down hw.own hMd.kp.size, hSP.out.snoc hOd.eb fun g hg => (hw.own.lt g (by rw [own_eb]; exact hg)).1⟩
      have j0 : (j : Int) < (ke : Int) := by omega
      clear bd hMd hOd hM hO HE HM3
      go_wp2_with fail
      go_region_law (first
        | (refine step_call (by rfl) 47 [.tmp 13] #[92] [.pointer (some ⟨rb, 0, none⟩)] (by rfl) (by rfl) (calle _) _ n3 ?_; rintro v8 W8 ⟨eq, ep, rfl, hw8⟩; obtain ⟨m8, o8, s8, p8⟩ := HW8.out W8 eq ep hw8.out; obtain ⟨x8, -⟩ := blk_cell m8.b3 1 (.slice q j cp) rfl; obtain ⟨x8a, -⟩ := blk_cell (m8.next ((Below.refl _ W8).alloc (Nat.le_refl _) (.cells #[.string nm, .int .i64 es, .int .i64 pr, .slice eq so.length ep, .int .i64 rs] 43))).b3 1 (.slice q j cp) rfl)
        | (refine step_app 23 43 _ 5 64 Tryz.underlying23 infoEnt (by rfl) (by decide) (by decide) (by rfl) _ _ (by rfl) w.heap.size (.slice q j cp) j (Es.flatMap ec) (by rfl) (by have e8 := o8.er; rw [hEl] at e8; exact own_next e8 ((Below.refl _ W8).alloc (Nat.le_refl _) _)) W8.heap.size (ec (⟨nm, es, pr, so, rs⟩, eq, ep)) rfl (ec_one _) (by rfl) (range_new W8 _ _) (by omega) (by have := m8.kp.size; simp; omega) ?_; intro v9 W9 ho9 hg9; have m9 := m8.own (.cells #[.string nm, .int .i64 es, .int .i64 pr, .slice eq so.length ep, .int .i64 rs] 43) o8.er (by decide) (by decide) hg9.out.1; obtain ⟨x9, y9⟩ := blk_cell m9.b3 1 (.slice q j cp) rfl; obtain ⟨q9, c9, rfl, -, -⟩ := own_slice ho9.out))
      all_goals
        have HM10 : Hid (Mk w (W9.setCell ⟨p3, 1, none⟩ (.slice q9 (j + 1) c9)) rb w.heap.size p3 zc (cv (.slice none 0 0) (.slice q9 (j + 1) c9) (.slice none 0 0) mn) 26 st6) := m9.set 1 _
        have hO10 : Hid (Rows (W9.setCell ⟨p3, 1, none⟩ (.slice q9 (j + 1) c9)) w.heap.size (.slice none 0 0) (.slice q9 (j + 1) c9) (.slice none 0 0) [] (Es ++ [(⟨nm, es, pr, so, rs⟩, eq, ep)]) []) := (o8.appE (⟨nm, es, pr, so, rs⟩, eq, ep) _ hg9.out.1 (by rw [hEl]; exact ho9.out) s8).set m9.b3 _
        clear m9 ho9 hg9 x8 x8a x9 y9 m8 o8 s8 hw8 HW8 n3 x3
        generalize W9.setCell ⟨p3, 1, none⟩ (.slice q9 (j + 1) c9) = W10 at *
        go_wp2
        exact ⟨⟨j + 1, q9, c9, Es ++ [(⟨nm, es, pr, so, rs⟩, eq, ep)], by omega, by go_num, by rw [HR1.out.2]; exact HM10, hO10, by show _ = _; rw [List.map_append, hEs.out, HR1.out.1]; rfl, p8⟩, by simp [intOf]; omega⟩
    obtain rfl : j = ke := by omega
    have n2 := count_f wr rb 2 4000 _ hM.out.rd (by decide)
    generalize rep rdE j st2 = RL at *
    obtain ⟨EL, st3⟩ := RL
    simp only at n2 HE hM hEs
    have hk2 := rdC_le 2 4000 (by decide) st3
    generalize rdC 2 4000 st3 = N2 at *
    obtain ⟨kt, st4⟩ := N2
    simp only at n2 HE hk2
    clear HM3 hlt
    go_wp2_with fail
    refine n2.mono ?_
    rintro e W4 ⟨rfl, hw4⟩
    have HM4 : Hid (Mk w W4 rb w.heap.size p3 zc (cv (.slice none 0 0) (.slice q j cp) (.slice none 0 0) mn) 26 st4) := hM.out.call hw4.out.1 hw4.out.2
    have HO4 : Hid (Rows W4 w.heap.size (.slice none 0 0) (.slice q j cp) (.slice none 0 0) [] Es []) := hO.out.kp hM.out.rd hw4.out.2
    have hki2 : (kt : Int) ≤ 4000 := by omega
    clear n2 hw4 hM hO
    go_wp2_with fail
    go_loopw [21] (fun i wv => ∃ (k : Nat) (tq : Option Addr) (ta : Nat), k ≤ kt ∧ i = .int .i64 (k : Int) ∧ Hid (Mk w wv rb w.heap.size p3 zc (cv (.slice none 0 0) (.slice q j cp) (.slice tq k ta) mn) 26 (rep rdT k st4).2) ∧ Hid (Rows wv w.heap.size (.slice none 0 0) (.slice q j cp) (.slice tq k ta) [] Es ((rep rdT k st4).1.map YtcjnejdemfemfaaGreatDoor.bk))) (fun i _ => kt - (intOf i).toNat)
    case atStart => exact ⟨0, none, 0, Nat.zero_le _, rfl, HM4, HO4⟩
    case round =>
      obtain ⟨k, tq, ta, hk, rfl, hM, hO⟩ := hrel
      by_cases hlt : k < kt
      case pos =>
        have HR1 : Hid ((rep rdT (k + 1) st4).1 = (rep rdT k st4).1 ++ [(rdT (rep rdT k st4).2).1] ∧ (rep rdT (k + 1) st4).2 = (rdT (rep rdT k st4).2).2) := rep_succ rdT k st4
        have hLk := rep_len rdT k st4
        have bd : Below wr.heap.size wr wr.drew := (Below.refl _ wr).drew
        have hMd := hM.out.next bd
        have hOd := hO.out.next bd
        have n2 := text_v wr.drew rb _ hMd.rd
        generalize rep rdT k st4 = RL at *
        obtain ⟨L, st5⟩ := RL
        simp only at n2 hM HR1 hMd hO hOd hLk
        generalize rdT st5 = N2 at *
        obtain ⟨tl, st6⟩ := N2
        simp only at n2 HR1
        obtain ⟨x3, -⟩ := blk_cell hM.out.b3 2 (.slice tq k ta) rfl
        have hmk : (L.map YtcjnejdemfemfaaGreatDoor.bk).length = k := by rw [List.length_map]; exact hLk
        have HMP : Hid (∀ x, (L ++ [x]).map YtcjnejdemfemfaaGreatDoor.bk = L.map YtcjnejdemfemfaaGreatDoor.bk ++ [YtcjnejdemfemfaaGreatDoor.bk x]) := fun x => by rw [List.map_append]; rfl
        generalize L.map YtcjnejdemfemfaaGreatDoor.bk = TL at *
        have HW8 : Hid (∀ W8, (Rd W8 rb st6 ∧ Kp (fun x => x = rb) wr.drew W8) → Mk w W8 rb w.heap.size p3 zc (cv (.slice none 0 0) (.slice q j cp) (.slice tq k ta) mn) 26 st6 ∧ Rows W8 w.heap.size (.slice none 0 0) (.slice q j cp) (.slice tq k ta) [] Es TL) := fun W8 hw => ⟨hMd.call hw.1 hw.2, hOd.kp hMd.rd hw.2⟩
        have k0 : (k : Int) < (kt : Int) := by omega
        have H1 : Hid (∀ u ∈ ([.string (YtcjnejdemfemfaaGreatDoor.bk tl)] : List Value), u.oneCell' = true) := fun u hu => by obtain rfl := List.mem_singleton.1 hu; rfl
        clear bd hMd hOd hM hO HE HM4 HO4
        go_wp2_with fail
        go_region_law (first
          | (refine step_call (by rfl) 48 [.tmp 25] #[92] [.pointer (some ⟨rb, 0, none⟩)] (by rfl) (by rfl) (callt _) _ n2 ?_; rintro v8 W8 ⟨rfl, hw8⟩; obtain ⟨m8, o8⟩ := HW8.out W8 hw8.out; obtain ⟨x8, -⟩ := blk_cell m8.b3 2 (.slice tq k ta) rfl; obtain ⟨x8a, -⟩ := blk_cell (m8.next ((Below.refl _ W8).alloc (Nat.le_refl _) (.cells #[.string (YtcjnejdemfemfaaGreatDoor.bk tl)] 9))).b3 2 (.slice tq k ta) rfl)
          | (refine step_app 24 9 _ 1 16 Tryz.underlying24 info9 (by rfl) (by decide) (by decide) (by rfl) _ _ (by rfl) w.heap.size (.slice tq k ta) k (tv TL) (by rfl) (by have e8 := o8.tr; rw [hmk] at e8; exact own_next e8 ((Below.refl _ W8).alloc (Nat.le_refl _) _)) W8.heap.size [.string (YtcjnejdemfemfaaGreatDoor.bk tl)] rfl H1.out (by rfl) (range_new W8 _ _) (by omega) (by have := m8.kp.size; simp; omega) ?_; intro v9 W9 ho9 hg9; have m9 := m8.own (.cells #[.string (YtcjnejdemfemfaaGreatDoor.bk tl)] 9) o8.tr (by decide) (by decide) hg9.out.1; obtain ⟨x9, y9⟩ := blk_cell m9.b3 2 (.slice tq k ta) rfl; obtain ⟨q9, c9, rfl, -, -⟩ := own_slice ho9.out))
        all_goals
          have HM10 : Hid (Mk w (W9.setCell ⟨p3, 2, none⟩ (.slice q9 (k + 1) c9)) rb w.heap.size p3 zc (cv (.slice none 0 0) (.slice q j cp) (.slice q9 (k + 1) c9) mn) 26 st6) := m9.set 2 _
          have hO10 : Hid (Rows (W9.setCell ⟨p3, 2, none⟩ (.slice q9 (k + 1) c9)) w.heap.size (.slice none 0 0) (.slice q j cp) (.slice q9 (k + 1) c9) [] Es (TL ++ [YtcjnejdemfemfaaGreatDoor.bk tl])) := (o8.appT (YtcjnejdemfemfaaGreatDoor.bk tl) _ hg9.out.1 (by rw [hmk]; exact ho9.out)).set m9.b3 _
          clear m9 ho9 hg9 x8 x8a x9 y9 m8 o8 hw8 HW8 n2 x3
          generalize W9.setCell ⟨p3, 2, none⟩ (.slice q9 (k + 1) c9) = W10 at *
          go_wp2
          exact ⟨⟨k + 1, q9, c9, by omega, by go_num, by rw [HR1.out.2]; exact HM10, by rw [HR1.out.1, HMP.out]; exact hO10⟩, by simp [intOf]; omega⟩
      obtain rfl : k = kt := by omega
      have n2 := count_f wr rb 4 60000 _ hM.out.rd (by decide)
      have hLk := rep_len rdT k st4
      generalize rep rdT k st4 = RL at *
      obtain ⟨TLb, st5⟩ := RL
      simp only at n2 HE hM hO hLk
      have hmk : (TLb.map YtcjnejdemfemfaaGreatDoor.bk).length = k := by rw [List.length_map]; exact hLk
      generalize TLb.map YtcjnejdemfemfaaGreatDoor.bk = TL at *
      have hk3 := rdC_le 4 60000 (by decide) st5
      generalize rdC 4 60000 st5 = N2 at *
      obtain ⟨ki, st6⟩ := N2
      simp only at n2 HE hk3
      clear HM4 HO4 hlt
      go_wp2_with fail
      refine n2.mono ?_
      rintro e W5 ⟨rfl, hw5⟩
      have HM5 : Hid (Mk w W5 rb w.heap.size p3 zc (cv (.slice none 0 0) (.slice q j cp) (.slice tq k ta) mn) 26 st6) := hM.out.call hw5.out.1 hw5.out.2
      have HO5 : Hid (Rows W5 w.heap.size (.slice none 0 0) (.slice q j cp) (.slice tq k ta) [] Es TL) := hO.out.kp hM.out.rd hw5.out.2
      have hki3 : (ki : Int) ≤ 60000 := by omega
      clear n2 hw5 hM hO
      go_wp2_with fail
      go_loopw [33] (fun i wv => ∃ (n : Nat) (iq : Option Addr) (ia : Nat), n ≤ ki ∧ i = .int .i64 (n : Int) ∧ Hid (Mk w wv rb w.heap.size p3 zc (cv (.slice iq n ia) (.slice q j cp) (.slice tq k ta) mn) 26 (rep rdI n st6).2) ∧ Hid (Rows wv w.heap.size (.slice iq n ia) (.slice q j cp) (.slice tq k ta) (rep rdI n st6).1 Es TL)) (fun i _ => ki - (intOf i).toNat)
      case atStart => exact ⟨0, none, 0, Nat.zero_le _, rfl, HM5, HO5⟩
      case round =>
        obtain ⟨n, iq, ia, hn, rfl, hM, hO⟩ := hrel
        by_cases hlt : n < ki
        case pos =>
          have HR1 : Hid ((rep rdI (n + 1) st6).1 = (rep rdI n st6).1 ++ [(rdI (rep rdI n st6).2).1] ∧ (rep rdI (n + 1) st6).2 = (rdI (rep rdI n st6).2).2) := rep_succ rdI n st6
          have hLk := rep_len rdI n st6
          have bd : Below wr.heap.size wr wr.drew := (Below.refl _ wr).drew
          have hMd := hM.out.next bd
          have hOd := hO.out.next bd
          have n2 := instr_v wr.drew rb _ hMd.rd (HT.out _ hMd.kp) hr
          generalize rep rdI n st6 = RL at *
          obtain ⟨IL, st7⟩ := RL
          simp only at n2 hM HR1 hMd hO hOd hLk
          generalize rdI st7 = N2 at *
          obtain ⟨⟨io, iaa, ib⟩, st8⟩ := N2
          simp only at n2 HR1
          have n3 : Calls Tryz.prog 49 #[.pointer (some ⟨rb, 0, none⟩)] wr.drew fun e w' => ∃ v, e = .returned v ∧ (v = .agg #[.int .i64 io, .int .i64 iaa, .int .i64 ib] ∧ Hid (Rd w' rb st8 ∧ Kp (fun x => x = rb) wr.drew w')) := n2
          obtain ⟨x3, -⟩ := blk_cell hM.out.b3 0 (.slice iq n ia) rfl
          have HW8 : Hid (∀ W8, (Rd W8 rb st8 ∧ Kp (fun x => x = rb) wr.drew W8) → Mk w W8 rb w.heap.size p3 zc (cv (.slice iq n ia) (.slice q j cp) (.slice tq k ta) mn) 26 st8 ∧ Rows W8 w.heap.size (.slice iq n ia) (.slice q j cp) (.slice tq k ta) IL Es TL) := fun W8 hw => ⟨hMd.call hw.1 hw.2, hOd.kp hMd.rd hw.2⟩
          have k0 : (n : Int) < (ki : Int) := by omega
          clear bd hMd hOd hM hO HE HM5 HO5 n2
          go_wp2_with fail
          go_region_law (first
            | (refine step_call (by rfl) 49 [.tmp 37] #[92] [.pointer (some ⟨rb, 0, none⟩)] (by rfl) (by rfl) (calli _) _ n3 ?_; rintro v8 W8 ⟨rfl, hw8⟩; obtain ⟨m8, o8⟩ := HW8.out W8 hw8.out; obtain ⟨x8, -⟩ := blk_cell m8.b3 0 (.slice iq n ia) rfl; obtain ⟨x8a, -⟩ := blk_cell (m8.next ((Below.refl _ W8).alloc (Nat.le_refl _) (.cells #[.int .i64 io, .int .i64 iaa, .int .i64 ib] 48))).b3 0 (.slice iq n ia) rfl)
            | (refine step_app 22 48 _ 3 24 Tryz.underlying22 infoIns (by rfl) (by decide) (by decide) (by rfl) _ _ (by rfl) w.heap.size (.slice iq n ia) n (IL.flatMap ic) (by rfl) (by have e8 := o8.ir; rw [hLk] at e8; exact own_next e8 ((Below.refl _ W8).alloc (Nat.le_refl _) _)) W8.heap.size (ic (io, iaa, ib)) rfl (ic_one _) (by rfl) (range_new W8 _ _) (by omega) (by have := m8.kp.size; simp; omega) ?_; intro v9 W9 ho9 hg9; have m9 := m8.own (.cells #[.int .i64 io, .int .i64 iaa, .int .i64 ib] 48) o8.ir (by decide) (by decide) hg9.out.1; obtain ⟨x9, y9⟩ := blk_cell m9.b3 0 (.slice iq n ia) rfl; obtain ⟨q9, c9, rfl, -, -⟩ := own_slice ho9.out))
          all_goals
            have HM10 : Hid (Mk w (W9.setCell ⟨p3, 0, none⟩ (.slice q9 (n + 1) c9)) rb w.heap.size p3 zc (cv (.slice q9 (n + 1) c9) (.slice q j cp) (.slice tq k ta) mn) 26 st8) := m9.set 0 _
            have hO10 : Hid (Rows (W9.setCell ⟨p3, 0, none⟩ (.slice q9 (n + 1) c9)) w.heap.size (.slice q9 (n + 1) c9) (.slice q j cp) (.slice tq k ta) (IL ++ [(io, iaa, ib)]) Es TL) := (o8.appI (io, iaa, ib) _ hg9.out.1 (by rw [hLk]; exact ho9.out)).set m9.b3 _
            clear m9 ho9 hg9 x8 x8a x9 y9 m8 o8 hw8 HW8 n3 x3
            generalize W9.setCell ⟨p3, 0, none⟩ (.slice q9 (n + 1) c9) = W10 at *
            go_wp2
            exact ⟨⟨n + 1, q9, c9, by omega, by go_num, by rw [HR1.out.2]; exact HM10, by rw [HR1.out.1]; exact hO10⟩, by simp [intOf]; omega⟩
        obtain rfl : n = ki := by omega
        have hLk := rep_len rdI n st6
        generalize rep rdI n st6 = RL at *
        obtain ⟨IL, st7⟩ := RL
        simp only at HE hM hO hLk
        obtain ⟨c0, -⟩ := blk_cell hM.out.b3 0 (.slice iq n ia) rfl
        obtain ⟨c1, -⟩ := blk_cell hM.out.b3 1 (.slice q j cp) rfl
        obtain ⟨c2, -⟩ := blk_cell hM.out.b3 2 (.slice tq k ta) rfl
        obtain ⟨c3, -⟩ := blk_cell hM.out.b3 3 (.int .i64 mn) rfl
        obtain ⟨z0, y0⟩ := blk_cell hM.out.b2 0 (.slice none 0 0) rfl
        obtain ⟨z1, y1⟩ := blk_cell hM.out.b2 1 (.slice none 0 0) rfl
        obtain ⟨z2, y2⟩ := blk_cell hM.out.b2 2 (.slice none 0 0) rfl
        obtain ⟨z3, y3⟩ := blk_cell hM.out.b2 3 (.int .i64 0) rfl
        clear HM5 HO5
        go_wp2
        have HF : Hid (Mk w ((((wr.setCell ⟨w.heap.size, 0, none⟩ (.slice iq n ia)).setCell ⟨w.heap.size, 1, none⟩ (.slice q j cp)).setCell ⟨w.heap.size, 2, none⟩ (.slice tq k ta)).setCell ⟨w.heap.size, 3, none⟩ (.int .i64 mn)) rb w.heap.size p3 (cv (.slice iq n ia) (.slice q j cp) (.slice tq k ta) mn) (cv (.slice iq n ia) (.slice q j cp) (.slice tq k ta) mn) 26 st7) := (((hM.out.res 0 _).res 1 _).res 2 _).res 3 _
        have hOF : Hid (Rows ((((wr.setCell ⟨w.heap.size, 0, none⟩ (.slice iq n ia)).setCell ⟨w.heap.size, 1, none⟩ (.slice q j cp)).setCell ⟨w.heap.size, 2, none⟩ (.slice tq k ta)).setCell ⟨w.heap.size, 3, none⟩ (.int .i64 mn)) w.heap.size (.slice iq n ia) (.slice q j cp) (.slice tq k ta) IL Es TL) :=
          (((hO.out.set hM.out.b2 _).set (hM.out.res 0 _).b2 _).set ((hM.out.res 0 _).res 1 _).b2 _).set (((hM.out.res 0 _).res 1 _).res 2 _).b2 _
        generalize (((wr.setCell ⟨w.heap.size, 0, none⟩ (.slice iq n ia)).setCell ⟨w.heap.size, 1, none⟩ (.slice q j cp)).setCell ⟨w.heap.size, 2, none⟩ (.slice tq k ta)).setCell ⟨w.heap.size, 3, none⟩ (.int .i64 mn) = WF at *
        obtain ⟨q0, -⟩ := blk_cell HF.out.b2 0 (.slice iq n ia) rfl
        obtain ⟨q1, -⟩ := blk_cell HF.out.b2 1 (.slice q j cp) rfl
        obtain ⟨q2, -⟩ := blk_cell HF.out.b2 2 (.slice tq k ta) rfl
        obtain ⟨q3, -⟩ := blk_cell HF.out.b2 3 (.int .i64 mn) rfl
        first | (change bodyPost Tryz.prog Tryz.f24 _ Exit.ret _ _) | (simp only [Exit.noGoto])
        have hll : EL.length = j := by rw [← hEs.out, List.length_map]; exact hEl
        refine bodyPost_ret (v := .agg (cv (.slice iq n ia) (.slice q j cp) (.slice tq k ta) mn)) (by simp [results, Tryz.results24, go_sem, q0, q1, q2, q3]) rfl ⟨iq, ia, q, cp, tq, ta, Es, ?_, ?_⟩
        · rw [HE.out]
          unfold codeV
          simp only [hLk, hmk, hll]
        · rw [HE.out]
          refine ⟨HF.out.rd, HF.out.kp, ?_, hEs.out, hSP.out⟩
          simp only [hLk, hmk, hll]
          exact hOF.out
end Go.Proofs.YtcjnejdemfemfaaGreatDoor

