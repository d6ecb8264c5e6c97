import Derived.Test.YtahdkffijlfmnaaGreatDoorT22
namespace Go.Proofs.YtahdkffijlfmnaaGreatDoor
open Go.RowKit
open Hp (V vc vcs)
set_option maxRecDepth 100000 in
set_option maxHeartbeats 4000000 in
theorem do_11 {w : World} {g : Nat} {K : Cg} {S : Ms} {L : List Fm} {ov : Value} {F Q : Nat → Prop} {gf cap n : Nat} {m : Fm} (h : Now w w g K L ov F Q gf cap n S m) (hG : GloM w L (.slice (some ⟨gf, 0, none⟩) (n + 1) cap) ov F) {i : Nat} (d : DoOk K S n m i) (a : Nat) (b : Int) :
    Calls Tryz.prog 54 #[.pointer (some ⟨g, 0, none⟩), .agg #[.int .i64 11, .int .i64 (a : Int), .int .i64 b]] w fun z w' => Hid (DoY w w' g K L (.slice (some ⟨gf, 0, none⟩) (n + 1) cap) ov F Q gf (n * 4) z (plainYd (doCallS K S n m.f a))) := by
  have _u1 := hG
  have _u2 := d
  have bW : Below w.heap.size w ((w.alloc (.cells #[.int .i64 11, .int .i64 (a : Int), .int .i64 b] 86)).alloc (.cells #[.int .i64 0, .bool false, .int .i64 0, .int .i64 0, .string Hp.e0] 54)) := ((Below.refl _ w).alloc (Nat.le_refl _) _).alloc (by simp) _
  have fY : Full ((w.alloc (.cells #[.int .i64 11, .int .i64 (a : Int), .int .i64 b] 86)).alloc (.cells #[.int .i64 0, .bool false, .int .i64 0, .int .i64 0, .string Hp.e0] 54)) (w.heap.size + 1) 54 [.int .i64 0, .bool false, .int .i64 0, .int .i64 0, .string Hp.e0] := by
    have := Full.new (w.alloc (.cells #[.int .i64 11, .int .i64 (a : Int), .int .i64 b] 86)) #[.int .i64 0, .bool false, .int .i64 0, .int .i64 0, .string Hp.e0] 54
    rw [World.size_alloc] at this
    exact this
  obtain ⟨L2, hlt, hgf, hsp⟩ := h.splitD
  obtain ⟨hN, hMid⟩ := hsp _ bW
  have HK : Hid (∀ w' z R, DoR ((w.alloc (.cells #[.int .i64 11, .int .i64 (a : Int), .int .i64 b] 86)).alloc (.cells #[.int .i64 0, .bool false, .int .i64 0, .int .i64 0, .string Hp.e0] 54)) w' g K L2 (.slice (some ⟨gf, 0, none⟩) (n + 1) cap) ov F Q gf (n * 4) z R → Full w' (w.heap.size + 1) 54 [.int .i64 0, .bool false, .int .i64 0, .int .i64 0, .string Hp.e0] ∧ DoR w w' g K L (.slice (some ⟨gf, 0, none⟩) (n + 1) cap) ov F Q gf (n * 4) z R) := fun w' z R q => ⟨((q.kp hgf).block _ fY.lt fun r => by have := hlt _ r; omega).trans fY, DoR.after hMid q⟩
  have d1 := doCall_any hN a d.nn (fun v hv => (d.st v hv).sz) d.ps
  generalize hR : (doCallS K S n m.f a) = R at d1 ⊢
  clear _u1 _u2 hN hMid hsp hlt hgf fY bW h hG d hR
  go_enter Tryz.func54, Tryz.ntmps54
  go_wp2_with (first
    | (go_at_call 84; refine d1.mono ?_; intro z1 w1 H1; obtain ⟨t1, e1⟩ := DoR.ret H1.out; subst e1; clear d1; obtain ⟨fY1, HD⟩ := HK.out _ _ _ H1.out; obtain ⟨y0, g0⟩ := fY1.cell 0 _ rfl; obtain ⟨y1, g1⟩ := fY1.cell 1 _ rfl; obtain ⟨y2, g2⟩ := fY1.cell 2 _ rfl; obtain ⟨y3, g3⟩ := fY1.cell 3 _ rfl; obtain ⟨y4, g4⟩ := fY1.cell 4 _ rfl)
    | fail)
  rw [five_self fY1]
  refine bodyPost_ret (ret_do fY1 rfl rfl) rfl ?_
  exact DoR.yd HD rfl rfl
set_option maxRecDepth 100000 in
set_option maxHeartbeats 4000000 in
theorem do_12 {w : World} {g : Nat} {K : Cg} {S : Ms} {L : List Fm} {ov : Value} {F Q : Nat → Prop} {gf cap n : Nat} {m : Fm} (h : Now w w g K L ov F Q gf cap n S m) (hG : GloM w L (.slice (some ⟨gf, 0, none⟩) (n + 1) cap) ov F) {i : Nat} (d : DoOk K S n m i) (a : Int) (b : Int) (hw : 1 ≤ m.f.st.length) :
    Calls Tryz.prog 54 #[.pointer (some ⟨g, 0, none⟩), .agg #[.int .i64 12, .int .i64 a, .int .i64 b]] w fun z w' => Hid (DoY w w' g K L (.slice (some ⟨gf, 0, none⟩) (n + 1) cap) ov F Q gf (n * 4) z (plainYd (doRetS K S n m.f i d.fn.2.1 m.f.st.dropLast (lastV m.f.st)))) := by
  have hx1 : m.f.st = m.f.st.dropLast ++ [lastV m.f.st] := last_app (by omega)
  have hv1 : (lastV m.f.st).2.2.size ≤ 9223372036854775807 := (d.st _ (last_mem (by omega))).sz
  have _u1 := hG
  have _u2 := d
  have bW : Below w.heap.size w ((w.alloc (.cells #[.int .i64 12, .int .i64 a, .int .i64 b] 86)).alloc (.cells #[.int .i64 0, .bool false, .int .i64 0, .int .i64 0, .string Hp.e0] 54)) := ((Below.refl _ w).alloc (Nat.le_refl _) _).alloc (by simp) _
  have fY : Full ((w.alloc (.cells #[.int .i64 12, .int .i64 a, .int .i64 b] 86)).alloc (.cells #[.int .i64 0, .bool false, .int .i64 0, .int .i64 0, .string Hp.e0] 54)) (w.heap.size + 1) 54 [.int .i64 0, .bool false, .int .i64 0, .int .i64 0, .string Hp.e0] := by
    have := Full.new (w.alloc (.cells #[.int .i64 12, .int .i64 a, .int .i64 b] 86)) #[.int .i64 0, .bool false, .int .i64 0, .int .i64 0, .string Hp.e0] 54
    rw [World.size_alloc] at this
    exact this
  obtain ⟨L2, hlt, hgf, hsp⟩ := h.splitD
  obtain ⟨hN, hMid⟩ := hsp _ bW
  have HK : Hid (∀ w' z R, DoR ((w.alloc (.cells #[.int .i64 12, .int .i64 a, .int .i64 b] 86)).alloc (.cells #[.int .i64 0, .bool false, .int .i64 0, .int .i64 0, .string Hp.e0] 54)) w' g K L2 (.slice (some ⟨gf, 0, none⟩) (n + 1) cap) ov F Q gf (n * 4) z R → Full w' (w.heap.size + 1) 54 [.int .i64 0, .bool false, .int .i64 0, .int .i64 0, .string Hp.e0] ∧ DoR w w' g K L (.slice (some ⟨gf, 0, none⟩) (n + 1) cap) ov F Q gf (n * 4) z R) := fun w' z R q => ⟨((q.kp hgf).block _ fY.lt fun r => by have := hlt _ r; omega).trans fY, DoR.after hMid q⟩
  have d1 := doRet_any hN hx1 hv1 d.fn d.ss
  generalize hR : (doRetS K S n m.f i d.fn.2.1 m.f.st.dropLast (lastV m.f.st)) = R at d1 ⊢
  clear _u1 _u2 hN hMid hsp hlt hgf fY bW h hG d hR hx1 hv1 hw
  go_enter Tryz.func54, Tryz.ntmps54
  go_wp2_with (first
    | (go_at_call 85; refine d1.mono ?_; intro z1 w1 H1; obtain ⟨t1, e1⟩ := DoR.ret H1.out; subst e1; clear d1; obtain ⟨fY1, HD⟩ := HK.out _ _ _ H1.out; obtain ⟨y0, g0⟩ := fY1.cell 0 _ rfl; obtain ⟨y1, g1⟩ := fY1.cell 1 _ rfl; obtain ⟨y2, g2⟩ := fY1.cell 2 _ rfl; obtain ⟨y3, g3⟩ := fY1.cell 3 _ rfl; obtain ⟨y4, g4⟩ := fY1.cell 4 _ rfl)
    | fail)
  rw [five_self fY1]
  refine bodyPost_ret (ret_do fY1 rfl rfl) rfl ?_
  exact DoR.yd HD rfl rfl
set_option maxRecDepth 100000 in
set_option maxHeartbeats 4000000 in
theorem do_13 {w : World} {g : Nat} {K : Cg} {S : Ms} {L : List Fm} {ov : Value} {F Q : Nat → Prop} {gf cap n : Nat} {m : Fm} (h : Now w w g K L ov F Q gf cap n S m) (hG : GloM w L (.slice (some ⟨gf, 0, none⟩) (n + 1) cap) ov F) {i : Nat} (d : DoOk K S n m i) (a : Int) (b : Int) :
    Calls Tryz.prog 54 #[.pointer (some ⟨g, 0, none⟩), .agg #[.int .i64 13, .int .i64 a, .int .i64 b]] w fun z w' => Hid (DoY w w' g K L (.slice (some ⟨gf, 0, none⟩) (n + 1) cap) ov F Q gf (n * 4) z (plainYd (doDoneS K S n i d.fn.2.1))) := by
  have _u1 := hG
  have _u2 := d
  have bW : Below w.heap.size w ((w.alloc (.cells #[.int .i64 13, .int .i64 a, .int .i64 b] 86)).alloc (.cells #[.int .i64 0, .bool false, .int .i64 0, .int .i64 0, .string Hp.e0] 54)) := ((Below.refl _ w).alloc (Nat.le_refl _) _).alloc (by simp) _
  have fY : Full ((w.alloc (.cells #[.int .i64 13, .int .i64 a, .int .i64 b] 86)).alloc (.cells #[.int .i64 0, .bool false, .int .i64 0, .int .i64 0, .string Hp.e0] 54)) (w.heap.size + 1) 54 [.int .i64 0, .bool false, .int .i64 0, .int .i64 0, .string Hp.e0] := by
    have := Full.new (w.alloc (.cells #[.int .i64 13, .int .i64 a, .int .i64 b] 86)) #[.int .i64 0, .bool false, .int .i64 0, .int .i64 0, .string Hp.e0] 54
    rw [World.size_alloc] at this
    exact this
  obtain ⟨L2, hlt, hgf, hsp⟩ := h.splitD
  obtain ⟨hN, hMid⟩ := hsp _ bW
  have HK : Hid (∀ w' z R, DoR ((w.alloc (.cells #[.int .i64 13, .int .i64 a, .int .i64 b] 86)).alloc (.cells #[.int .i64 0, .bool false, .int .i64 0, .int .i64 0, .string Hp.e0] 54)) w' g K L2 (.slice (some ⟨gf, 0, none⟩) (n + 1) cap) ov F Q gf (n * 4) z R → Full w' (w.heap.size + 1) 54 [.int .i64 0, .bool false, .int .i64 0, .int .i64 0, .string Hp.e0] ∧ DoR w w' g K L (.slice (some ⟨gf, 0, none⟩) (n + 1) cap) ov F Q gf (n * 4) z R) := fun w' z R q => ⟨((q.kp hgf).block _ fY.lt fun r => by have := hlt _ r; omega).trans fY, DoR.after hMid q⟩
  have d1 := doDone_any hN d.fn
  generalize hR : (doDoneS K S n i d.fn.2.1) = R at d1 ⊢
  clear _u1 _u2 hN hMid hsp hlt hgf fY bW h hG d hR
  go_enter Tryz.func54, Tryz.ntmps54
  go_wp2_with (first
    | (go_at_call 86; refine d1.mono ?_; intro z1 w1 H1; obtain ⟨t1, e1⟩ := DoR.ret H1.out; subst e1; clear d1; obtain ⟨fY1, HD⟩ := HK.out _ _ _ H1.out; obtain ⟨y0, g0⟩ := fY1.cell 0 _ rfl; obtain ⟨y1, g1⟩ := fY1.cell 1 _ rfl; obtain ⟨y2, g2⟩ := fY1.cell 2 _ rfl; obtain ⟨y3, g3⟩ := fY1.cell 3 _ rfl; obtain ⟨y4, g4⟩ := fY1.cell 4 _ rfl)
    | fail)
  rw [five_self fY1]
  refine bodyPost_ret (ret_do fY1 rfl rfl) rfl ?_
  exact DoR.yd HD rfl rfl
set_option maxRecDepth 100000 in
set_option maxHeartbeats 4000000 in
theorem do_14 {w : World} {g : Nat} {K : Cg} {S : Ms} {L : List Fm} {ov : Value} {F Q : Nat → Prop} {gf cap n : Nat} {m : Fm} (h : Now w w g K L ov F Q gf cap n S m) (hG : GloM w L (.slice (some ⟨gf, 0, none⟩) (n + 1) cap) ov F) {i : Nat} (d : DoOk K S n m i) (a : Int) (b : Int) (hw : 1 ≤ m.f.st.length) :
    Calls Tryz.prog 54 #[.pointer (some ⟨g, 0, none⟩), .agg #[.int .i64 14, .int .i64 a, .int .i64 b]] w fun z w' => Hid (DoY w w' g K L (.slice (some ⟨gf, 0, none⟩) (n + 1) cap) ov F Q gf (n * 4) z (plainYd (doNewS K S n m.f m.f.st.dropLast (lastV m.f.st) a))) := by
  have hx1 : m.f.st = m.f.st.dropLast ++ [lastV m.f.st] := last_app (by omega)
  have hv1 : (lastV m.f.st).2.2.size ≤ 9223372036854775807 := (d.st _ (last_mem (by omega))).sz
  have _u1 := hG
  have _u2 := d
  have bW : Below w.heap.size w ((w.alloc (.cells #[.int .i64 14, .int .i64 a, .int .i64 b] 86)).alloc (.cells #[.int .i64 0, .bool false, .int .i64 0, .int .i64 0, .string Hp.e0] 54)) := ((Below.refl _ w).alloc (Nat.le_refl _) _).alloc (by simp) _
  have fY : Full ((w.alloc (.cells #[.int .i64 14, .int .i64 a, .int .i64 b] 86)).alloc (.cells #[.int .i64 0, .bool false, .int .i64 0, .int .i64 0, .string Hp.e0] 54)) (w.heap.size + 1) 54 [.int .i64 0, .bool false, .int .i64 0, .int .i64 0, .string Hp.e0] := by
    have := Full.new (w.alloc (.cells #[.int .i64 14, .int .i64 a, .int .i64 b] 86)) #[.int .i64 0, .bool false, .int .i64 0, .int .i64 0, .string Hp.e0] 54
    rw [World.size_alloc] at this
    exact this
  obtain ⟨L2, hlt, hgf, hsp⟩ := h.splitD
  obtain ⟨hN, hMid⟩ := hsp _ bW
  have HK : Hid (∀ w' z R, DoR ((w.alloc (.cells #[.int .i64 14, .int .i64 a, .int .i64 b] 86)).alloc (.cells #[.int .i64 0, .bool false, .int .i64 0, .int .i64 0, .string Hp.e0] 54)) w' g K L2 (.slice (some ⟨gf, 0, none⟩) (n + 1) cap) ov F Q gf (n * 4) z R → Full w' (w.heap.size + 1) 54 [.int .i64 0, .bool false, .int .i64 0, .int .i64 0, .string Hp.e0] ∧ DoR w w' g K L (.slice (some ⟨gf, 0, none⟩) (n + 1) cap) ov F Q gf (n * 4) z R) := fun w' z R q => ⟨((q.kp hgf).block _ fY.lt fun r => by have := hlt _ r; omega).trans fY, DoR.after hMid q⟩
  have d1 := doNew_any hN (hG.mid bW hMid).zap hx1 a
  generalize hR : (doNewS K S n m.f m.f.st.dropLast (lastV m.f.st) a) = R at d1 ⊢
  clear _u1 _u2 hN hMid hsp hlt hgf fY bW h hG d hR hx1 hv1 hw
  go_enter Tryz.func54, Tryz.ntmps54
  go_wp2_with (first
    | (go_at_call 87; refine d1.mono ?_; intro z1 w1 H1; obtain ⟨t1, e1⟩ := DoR.ret H1.out; subst e1; clear d1; obtain ⟨fY1, HD⟩ := HK.out _ _ _ H1.out; obtain ⟨y0, g0⟩ := fY1.cell 0 _ rfl; obtain ⟨y1, g1⟩ := fY1.cell 1 _ rfl; obtain ⟨y2, g2⟩ := fY1.cell 2 _ rfl; obtain ⟨y3, g3⟩ := fY1.cell 3 _ rfl; obtain ⟨y4, g4⟩ := fY1.cell 4 _ rfl)
    | fail)
  rw [five_self fY1]
  refine bodyPost_ret (ret_do fY1 rfl rfl) rfl ?_
  exact DoR.yd HD rfl rfl
set_option maxRecDepth 100000 in
set_option maxHeartbeats 4000000 in
theorem do_15 {w : World} {g : Nat} {K : Cg} {S : Ms} {L : List Fm} {ov : Value} {F Q : Nat → Prop} {gf cap n : Nat} {m : Fm} (h : Now w w g K L ov F Q gf cap n S m) (hG : GloM w L (.slice (some ⟨gf, 0, none⟩) (n + 1) cap) ov F) {i : Nat} (d : DoOk K S n m i) (a : Int) (b : Int) (hw : 2 ≤ m.f.st.length) :
    Calls Tryz.prog 54 #[.pointer (some ⟨g, 0, none⟩), .agg #[.int .i64 15, .int .i64 a, .int .i64 b]] w fun z w' => Hid (DoY w w' g K L (.slice (some ⟨gf, 0, none⟩) (n + 1) cap) ov F Q gf (n * 4) z (plainYd (doGetS S n m.f m.f.st.dropLast.dropLast (lastV m.f.st.dropLast) (lastV m.f.st)))) := by
  have hx1 : m.f.st = m.f.st.dropLast ++ [lastV m.f.st] := last_app (by omega)
  have hl1 : m.f.st.dropLast.length = m.f.st.length - 1 := List.length_dropLast
  have hx2 : m.f.st = (m.f.st.dropLast.dropLast ++ [lastV m.f.st.dropLast]) ++ [lastV m.f.st] := by rw [← last_app (l := m.f.st.dropLast) (by omega)]; exact hx1
  have hv1 : (lastV m.f.st).2.2.size ≤ 9223372036854775807 := (d.st _ (last_mem (by omega))).sz
  have hv2 : (lastV m.f.st.dropLast).2.2.size ≤ 9223372036854775807 := (d.st _ (drop_mem (last_mem (by omega)))).sz
  have _u1 := hG
  have _u2 := d
  have bW : Below w.heap.size w ((w.alloc (.cells #[.int .i64 15, .int .i64 a, .int .i64 b] 86)).alloc (.cells #[.int .i64 0, .bool false, .int .i64 0, .int .i64 0, .string Hp.e0] 54)) := ((Below.refl _ w).alloc (Nat.le_refl _) _).alloc (by simp) _
  have fY : Full ((w.alloc (.cells #[.int .i64 15, .int .i64 a, .int .i64 b] 86)).alloc (.cells #[.int .i64 0, .bool false, .int .i64 0, .int .i64 0, .string Hp.e0] 54)) (w.heap.size + 1) 54 [.int .i64 0, .bool false, .int .i64 0, .int .i64 0, .string Hp.e0] := by
    have := Full.new (w.alloc (.cells #[.int .i64 15, .int .i64 a, .int .i64 b] 86)) #[.int .i64 0, .bool false, .int .i64 0, .int .i64 0, .string Hp.e0] 54
    rw [World.size_alloc] at this
    exact this
  obtain ⟨L2, hlt, hgf, hsp⟩ := h.splitD
  obtain ⟨hN, hMid⟩ := hsp _ bW
  have HK : Hid (∀ w' z R, DoR ((w.alloc (.cells #[.int .i64 15, .int .i64 a, .int .i64 b] 86)).alloc (.cells #[.int .i64 0, .bool false, .int .i64 0, .int .i64 0, .string Hp.e0] 54)) w' g K L2 (.slice (some ⟨gf, 0, none⟩) (n + 1) cap) ov F Q gf (n * 4) z R → Full w' (w.heap.size + 1) 54 [.int .i64 0, .bool false, .int .i64 0, .int .i64 0, .string Hp.e0] ∧ DoR w w' g K L (.slice (some ⟨gf, 0, none⟩) (n + 1) cap) ov F Q gf (n * 4) z R) := fun w' z R q => ⟨((q.kp hgf).block _ fY.lt fun r => by have := hlt _ r; omega).trans fY, DoR.after hMid q⟩
  have d1 := doGet_any hN hx2 hv2 hv1
  generalize hR : (doGetS S n m.f m.f.st.dropLast.dropLast (lastV m.f.st.dropLast) (lastV m.f.st)) = R at d1 ⊢
  clear _u1 _u2 hN hMid hsp hlt hgf fY bW h hG d hR hx1 hx2 hl1 hv1 hv2 hw
  go_enter Tryz.func54, Tryz.ntmps54
  go_wp2_with (first
    | (go_at_call 88; refine d1.mono ?_; intro z1 w1 H1; obtain ⟨t1, e1⟩ := DoR.ret H1.out; subst e1; clear d1; obtain ⟨fY1, HD⟩ := HK.out _ _ _ H1.out; obtain ⟨y0, g0⟩ := fY1.cell 0 _ rfl; obtain ⟨y1, g1⟩ := fY1.cell 1 _ rfl; obtain ⟨y2, g2⟩ := fY1.cell 2 _ rfl; obtain ⟨y3, g3⟩ := fY1.cell 3 _ rfl; obtain ⟨y4, g4⟩ := fY1.cell 4 _ rfl)
    | fail)
  rw [five_self fY1]
  refine bodyPost_ret (ret_do fY1 rfl rfl) rfl ?_
  exact DoR.yd HD rfl rfl
set_option maxRecDepth 100000 in
set_option maxHeartbeats 4000000 in
theorem do_16 {w : World} {g : Nat} {K : Cg} {S : Ms} {L : List Fm} {ov : Value} {F Q : Nat → Prop} {gf cap n : Nat} {m : Fm} (h : Now w w g K L ov F Q gf cap n S m) (hG : GloM w L (.slice (some ⟨gf, 0, none⟩) (n + 1) cap) ov F) {i : Nat} (d : DoOk K S n m i) (a : Int) (b : Int) (hw : 3 ≤ m.f.st.length) :
    Calls Tryz.prog 54 #[.pointer (some ⟨g, 0, none⟩), .agg #[.int .i64 16, .int .i64 a, .int .i64 b]] w fun z w' => Hid (DoY w w' g K L (.slice (some ⟨gf, 0, none⟩) (n + 1) cap) ov F Q gf (n * 4) z (plainYd (doPutS S n m.f m.f.st.dropLast.dropLast.dropLast (lastV m.f.st.dropLast.dropLast) (lastV m.f.st.dropLast) (lastV m.f.st)))) := by
  have hx1 : m.f.st = m.f.st.dropLast ++ [lastV m.f.st] := last_app (by omega)
  have hl1 : m.f.st.dropLast.length = m.f.st.length - 1 := List.length_dropLast
  have hl2 : m.f.st.dropLast.dropLast.length = m.f.st.dropLast.length - 1 := List.length_dropLast
  have hx3 : m.f.st = m.f.st.dropLast.dropLast.dropLast ++ [lastV m.f.st.dropLast.dropLast] ++ [lastV m.f.st.dropLast] ++ [lastV m.f.st] := by rw [← last_app (l := m.f.st.dropLast.dropLast) (by omega), ← last_app (l := m.f.st.dropLast) (by omega)]; exact hx1
  have hv1 : (lastV m.f.st).2.2.size ≤ 9223372036854775807 := (d.st _ (last_mem (by omega))).sz
  have hv3 : (lastV m.f.st.dropLast.dropLast).2.2.size ≤ 9223372036854775807 := (d.st _ (drop_mem (drop_mem (last_mem (by omega))))).sz
  have _u1 := hG
  have _u2 := d
  have bW : Below w.heap.size w ((w.alloc (.cells #[.int .i64 16, .int .i64 a, .int .i64 b] 86)).alloc (.cells #[.int .i64 0, .bool false, .int .i64 0, .int .i64 0, .string Hp.e0] 54)) := ((Below.refl _ w).alloc (Nat.le_refl _) _).alloc (by simp) _
  have fY : Full ((w.alloc (.cells #[.int .i64 16, .int .i64 a, .int .i64 b] 86)).alloc (.cells #[.int .i64 0, .bool false, .int .i64 0, .int .i64 0, .string Hp.e0] 54)) (w.heap.size + 1) 54 [.int .i64 0, .bool false, .int .i64 0, .int .i64 0, .string Hp.e0] := by
    have := Full.new (w.alloc (.cells #[.int .i64 16, .int .i64 a, .int .i64 b] 86)) #[.int .i64 0, .bool false, .int .i64 0, .int .i64 0, .string Hp.e0] 54
    rw [World.size_alloc] at this
    exact this
  obtain ⟨L2, hlt, hgf, hsp⟩ := h.splitD
  obtain ⟨hN, hMid⟩ := hsp _ bW
  have HK : Hid (∀ w' z R, DoR ((w.alloc (.cells #[.int .i64 16, .int .i64 a, .int .i64 b] 86)).alloc (.cells #[.int .i64 0, .bool false, .int .i64 0, .int .i64 0, .string Hp.e0] 54)) w' g K L2 (.slice (some ⟨gf, 0, none⟩) (n + 1) cap) ov F Q gf (n * 4) z R → Full w' (w.heap.size + 1) 54 [.int .i64 0, .bool false, .int .i64 0, .int .i64 0, .string Hp.e0] ∧ DoR w w' g K L (.slice (some ⟨gf, 0, none⟩) (n + 1) cap) ov F Q gf (n * 4) z R) := fun w' z R q => ⟨((q.kp hgf).block _ fY.lt fun r => by have := hlt _ r; omega).trans fY, DoR.after hMid q⟩
  have d1 := doPut_any hN hx3 hv3 hv1
  generalize hR : (doPutS S n m.f m.f.st.dropLast.dropLast.dropLast (lastV m.f.st.dropLast.dropLast) (lastV m.f.st.dropLast) (lastV m.f.st)) = R at d1 ⊢
  clear _u1 _u2 hN hMid hsp hlt hgf fY bW h hG d hR hx1 hx3 hl1 hl2 hv1 hv3 hw
  go_enter Tryz.func54, Tryz.ntmps54
  go_wp2_with (first
    | (go_at_call 89; refine d1.mono ?_; intro z1 w1 H1; obtain ⟨t1, e1⟩ := DoR.ret H1.out; subst e1; clear d1; obtain ⟨fY1, HD⟩ := HK.out _ _ _ H1.out; obtain ⟨y0, g0⟩ := fY1.cell 0 _ rfl; obtain ⟨y1, g1⟩ := fY1.cell 1 _ rfl; obtain ⟨y2, g2⟩ := fY1.cell 2 _ rfl; obtain ⟨y3, g3⟩ := fY1.cell 3 _ rfl; obtain ⟨y4, g4⟩ := fY1.cell 4 _ rfl)
    | fail)
  rw [five_self fY1]
  refine bodyPost_ret (ret_do fY1 rfl rfl) rfl ?_
  exact DoR.yd HD rfl rfl
set_option maxRecDepth 100000 in
set_option maxHeartbeats 4000000 in
theorem do_17 {w : World} {g : Nat} {K : Cg} {S : Ms} {L : List Fm} {ov : Value} {F Q : Nat → Prop} {gf cap n : Nat} {m : Fm} (h : Now w w g K L ov F Q gf cap n S m) (hG : GloM w L (.slice (some ⟨gf, 0, none⟩) (n + 1) cap) ov F) {i : Nat} (d : DoOk K S n m i) (a : Int) (b : Int) (hw : 1 ≤ m.f.st.length) :
    Calls Tryz.prog 54 #[.pointer (some ⟨g, 0, none⟩), .agg #[.int .i64 17, .int .i64 a, .int .i64 b]] w fun z w' => Hid (DoY w w' g K L (.slice (some ⟨gf, 0, none⟩) (n + 1) cap) ov F Q gf (n * 4) z (plainYd (doLenS S n m.f m.f.st.dropLast (lastV m.f.st)))) := by
  have hx1 : m.f.st = m.f.st.dropLast ++ [lastV m.f.st] := last_app (by omega)
  have hv1 : (lastV m.f.st).2.2.size ≤ 9223372036854775807 := (d.st _ (last_mem (by omega))).sz
  have _u1 := hG
  have _u2 := d
  have bW : Below w.heap.size w ((w.alloc (.cells #[.int .i64 17, .int .i64 a, .int .i64 b] 86)).alloc (.cells #[.int .i64 0, .bool false, .int .i64 0, .int .i64 0, .string Hp.e0] 54)) := ((Below.refl _ w).alloc (Nat.le_refl _) _).alloc (by simp) _
  have fY : Full ((w.alloc (.cells #[.int .i64 17, .int .i64 a, .int .i64 b] 86)).alloc (.cells #[.int .i64 0, .bool false, .int .i64 0, .int .i64 0, .string Hp.e0] 54)) (w.heap.size + 1) 54 [.int .i64 0, .bool false, .int .i64 0, .int .i64 0, .string Hp.e0] := by
    have := Full.new (w.alloc (.cells #[.int .i64 17, .int .i64 a, .int .i64 b] 86)) #[.int .i64 0, .bool false, .int .i64 0, .int .i64 0, .string Hp.e0] 54
    rw [World.size_alloc] at this
    exact this
  obtain ⟨L2, hlt, hgf, hsp⟩ := h.splitD
  obtain ⟨hN, hMid⟩ := hsp _ bW
  have HK : Hid (∀ w' z R, DoR ((w.alloc (.cells #[.int .i64 17, .int .i64 a, .int .i64 b] 86)).alloc (.cells #[.int .i64 0, .bool false, .int .i64 0, .int .i64 0, .string Hp.e0] 54)) w' g K L2 (.slice (some ⟨gf, 0, none⟩) (n + 1) cap) ov F Q gf (n * 4) z R → Full w' (w.heap.size + 1) 54 [.int .i64 0, .bool false, .int .i64 0, .int .i64 0, .string Hp.e0] ∧ DoR w w' g K L (.slice (some ⟨gf, 0, none⟩) (n + 1) cap) ov F Q gf (n * 4) z R) := fun w' z R q => ⟨((q.kp hgf).block _ fY.lt fun r => by have := hlt _ r; omega).trans fY, DoR.after hMid q⟩
  have d1 := doLen_any hN hx1 hv1
  generalize hR : (doLenS S n m.f m.f.st.dropLast (lastV m.f.st)) = R at d1 ⊢
  clear _u1 _u2 hN hMid hsp hlt hgf fY bW h hG d hR hx1 hv1 hw
  go_enter Tryz.func54, Tryz.ntmps54
  go_wp2_with (first
    | (go_at_call 90; refine d1.mono ?_; intro z1 w1 H1; obtain ⟨t1, e1⟩ := DoR.ret H1.out; subst e1; clear d1; obtain ⟨fY1, HD⟩ := HK.out _ _ _ H1.out; obtain ⟨y0, g0⟩ := fY1.cell 0 _ rfl; obtain ⟨y1, g1⟩ := fY1.cell 1 _ rfl; obtain ⟨y2, g2⟩ := fY1.cell 2 _ rfl; obtain ⟨y3, g3⟩ := fY1.cell 3 _ rfl; obtain ⟨y4, g4⟩ := fY1.cell 4 _ rfl)
    | fail)
  rw [five_self fY1]
  refine bodyPost_ret (ret_do fY1 rfl rfl) rfl ?_
  exact DoR.yd HD rfl rfl
set_option maxRecDepth 100000 in
set_option maxHeartbeats 4000000 in
theorem do_18 {w : World} {g : Nat} {K : Cg} {S : Ms} {L : List Fm} {ov : Value} {F Q : Nat → Prop} {gf cap n : Nat} {m : Fm} (h : Now w w g K L ov F Q gf cap n S m) (hG : GloM w L (.slice (some ⟨gf, 0, none⟩) (n + 1) cap) ov F) {i : Nat} (d : DoOk K S n m i) (a : Int) (b : Int) (hw : 1 ≤ m.f.st.length) :
    Calls Tryz.prog 54 #[.pointer (some ⟨g, 0, none⟩), .agg #[.int .i64 18, .int .i64 a, .int .i64 b]] w fun z w' => Hid (DoY w w' g K L (.slice (some ⟨gf, 0, none⟩) (n + 1) cap) ov F Q gf (n * 4) z (plainYd (doStrS S n m.f m.f.st.dropLast (lastV m.f.st)))) := by
  have hx1 : m.f.st = m.f.st.dropLast ++ [lastV m.f.st] := last_app (by omega)
  have hv1 : (lastV m.f.st).2.2.size ≤ 9223372036854775807 := (d.st _ (last_mem (by omega))).sz
  have _u1 := hG
  have _u2 := d
  have bW : Below w.heap.size w ((w.alloc (.cells #[.int .i64 18, .int .i64 a, .int .i64 b] 86)).alloc (.cells #[.int .i64 0, .bool false, .int .i64 0, .int .i64 0, .string Hp.e0] 54)) := ((Below.refl _ w).alloc (Nat.le_refl _) _).alloc (by simp) _
  have fY : Full ((w.alloc (.cells #[.int .i64 18, .int .i64 a, .int .i64 b] 86)).alloc (.cells #[.int .i64 0, .bool false, .int .i64 0, .int .i64 0, .string Hp.e0] 54)) (w.heap.size + 1) 54 [.int .i64 0, .bool false, .int .i64 0, .int .i64 0, .string Hp.e0] := by
    have := Full.new (w.alloc (.cells #[.int .i64 18, .int .i64 a, .int .i64 b] 86)) #[.int .i64 0, .bool false, .int .i64 0, .int .i64 0, .string Hp.e0] 54
    rw [World.size_alloc] at this
    exact this
  obtain ⟨L2, hlt, hgf, hsp⟩ := h.splitD
  obtain ⟨hN, hMid⟩ := hsp _ bW
  have HK : Hid (∀ w' z R, DoR ((w.alloc (.cells #[.int .i64 18, .int .i64 a, .int .i64 b] 86)).alloc (.cells #[.int .i64 0, .bool false, .int .i64 0, .int .i64 0, .string Hp.e0] 54)) w' g K L2 (.slice (some ⟨gf, 0, none⟩) (n + 1) cap) ov F Q gf (n * 4) z R → Full w' (w.heap.size + 1) 54 [.int .i64 0, .bool false, .int .i64 0, .int .i64 0, .string Hp.e0] ∧ DoR w w' g K L (.slice (some ⟨gf, 0, none⟩) (n + 1) cap) ov F Q gf (n * 4) z R) := fun w' z R q => ⟨((q.kp hgf).block _ fY.lt fun r => by have := hlt _ r; omega).trans fY, DoR.after hMid q⟩
  have d1 := doStr_any hN (hG.mid bW hMid) hx1 hv1 (d.st _ (last_mem (by omega))).2
  generalize hR : (doStrS S n m.f m.f.st.dropLast (lastV m.f.st)) = R at d1 ⊢
  clear _u1 _u2 hN hMid hsp hlt hgf fY bW h hG d hR hx1 hv1 hw
  go_enter Tryz.func54, Tryz.ntmps54
  go_wp2_with (first
    | (go_at_call 91; refine d1.mono ?_; intro z1 w1 H1; obtain ⟨t1, e1⟩ := DoR.ret H1.out; subst e1; clear d1; obtain ⟨fY1, HD⟩ := HK.out _ _ _ H1.out; obtain ⟨y0, g0⟩ := fY1.cell 0 _ rfl; obtain ⟨y1, g1⟩ := fY1.cell 1 _ rfl; obtain ⟨y2, g2⟩ := fY1.cell 2 _ rfl; obtain ⟨y3, g3⟩ := fY1.cell 3 _ rfl; obtain ⟨y4, g4⟩ := fY1.cell 4 _ rfl)
    | fail)
  rw [five_self fY1]
  refine bodyPost_ret (ret_do fY1 rfl rfl) rfl ?_
  exact DoR.yd HD rfl rfl
set_option maxRecDepth 100000 in
set_option maxHeartbeats 4000000 in
theorem do_19 {w : World} {g : Nat} {K : Cg} {S : Ms} {L : List Fm} {ov : Value} {F Q : Nat → Prop} {gf cap n : Nat} {m : Fm} (h : Now w w g K L ov F Q gf cap n S m) (hG : GloM w L (.slice (some ⟨gf, 0, none⟩) (n + 1) cap) ov F) {i : Nat} (d : DoOk K S n m i) (a : Nat) (b : Int) (ha : a ≤ 16) :
    Calls Tryz.prog 54 #[.pointer (some ⟨g, 0, none⟩), .agg #[.int .i64 19, .int .i64 (a : Int), .int .i64 b]] w fun z w' => Hid (DoY w w' g K L (.slice (some ⟨gf, 0, none⟩) (n + 1) cap) ov F Q gf (n * 4) z (plainYd (doPrintS S n m.f a))) := by
  have _u1 := hG
  have _u2 := d
  have bW : Below w.heap.size w ((w.alloc (.cells #[.int .i64 19, .int .i64 (a : Int), .int .i64 b] 86)).alloc (.cells #[.int .i64 0, .bool false, .int .i64 0, .int .i64 0, .string Hp.e0] 54)) := ((Below.refl _ w).alloc (Nat.le_refl _) _).alloc (by simp) _
  have fY : Full ((w.alloc (.cells #[.int .i64 19, .int .i64 (a : Int), .int .i64 b] 86)).alloc (.cells #[.int .i64 0, .bool false, .int .i64 0, .int .i64 0, .string Hp.e0] 54)) (w.heap.size + 1) 54 [.int .i64 0, .bool false, .int .i64 0, .int .i64 0, .string Hp.e0] := by
    have := Full.new (w.alloc (.cells #[.int .i64 19, .int .i64 (a : Int), .int .i64 b] 86)) #[.int .i64 0, .bool false, .int .i64 0, .int .i64 0, .string Hp.e0] 54
    rw [World.size_alloc] at this
    exact this
  obtain ⟨L2, hlt, hgf, hsp⟩ := h.splitD
  obtain ⟨hN, hMid⟩ := hsp _ bW
  have HK : Hid (∀ w' z R, DoR ((w.alloc (.cells #[.int .i64 19, .int .i64 (a : Int), .int .i64 b] 86)).alloc (.cells #[.int .i64 0, .bool false, .int .i64 0, .int .i64 0, .string Hp.e0] 54)) w' g K L2 (.slice (some ⟨gf, 0, none⟩) (n + 1) cap) ov F Q gf (n * 4) z R → Full w' (w.heap.size + 1) 54 [.int .i64 0, .bool false, .int .i64 0, .int .i64 0, .string Hp.e0] ∧ DoR w w' g K L (.slice (some ⟨gf, 0, none⟩) (n + 1) cap) ov F Q gf (n * 4) z R) := fun w' z R q => ⟨((q.kp hgf).block _ fY.lt fun r => by have := hlt _ r; omega).trans fY, DoR.after hMid q⟩
  have d1 := doPrint_any hN (hG.mid bW hMid) a ha d.st d.out
  generalize hR : (doPrintS S n m.f a) = R at d1 ⊢
  clear _u1 _u2 hN hMid hsp hlt hgf fY bW h hG d hR ha
  go_enter Tryz.func54, Tryz.ntmps54
  go_wp2_with (first
    | (go_at_call 92; refine d1.mono ?_; intro z1 w1 H1; obtain ⟨t1, e1⟩ := DoR.ret H1.out; subst e1; clear d1; obtain ⟨fY1, HD⟩ := HK.out _ _ _ H1.out; obtain ⟨y0, g0⟩ := fY1.cell 0 _ rfl; obtain ⟨y1, g1⟩ := fY1.cell 1 _ rfl; obtain ⟨y2, g2⟩ := fY1.cell 2 _ rfl; obtain ⟨y3, g3⟩ := fY1.cell 3 _ rfl; obtain ⟨y4, g4⟩ := fY1.cell 4 _ rfl)
    | fail)
  rw [five_self fY1]
  refine bodyPost_ret (ret_do fY1 rfl rfl) rfl ?_
  exact DoR.yd HD rfl rfl
set_option maxRecDepth 100000 in
set_option maxHeartbeats 4000000 in
theorem do_20 {w : World} {g : Nat} {K : Cg} {S : Ms} {L : List Fm} {ov : Value} {F Q : Nat → Prop} {gf cap n : Nat} {m : Fm} (h : Now w w g K L ov F Q gf cap n S m) (hG : GloM w L (.slice (some ⟨gf, 0, none⟩) (n + 1) cap) ov F) {i : Nat} (d : DoOk K S n m i) (a : Int) (b : Int) :
    Calls Tryz.prog 54 #[.pointer (some ⟨g, 0, none⟩), .agg #[.int .i64 20, .int .i64 a, .int .i64 b]] w fun z w' => Hid (DoY w w' g K L (.slice (some ⟨gf, 0, none⟩) (n + 1) cap) ov F Q gf (n * 4) z (plainYd (doReadS K S n m.f))) := by
  have _u1 := hG
  have _u2 := d
  have bW : Below w.heap.size w ((w.alloc (.cells #[.int .i64 20, .int .i64 a, .int .i64 b] 86)).alloc (.cells #[.int .i64 0, .bool false, .int .i64 0, .int .i64 0, .string Hp.e0] 54)) := ((Below.refl _ w).alloc (Nat.le_refl _) _).alloc (by simp) _
  have fY : Full ((w.alloc (.cells #[.int .i64 20, .int .i64 a, .int .i64 b] 86)).alloc (.cells #[.int .i64 0, .bool false, .int .i64 0, .int .i64 0, .string Hp.e0] 54)) (w.heap.size + 1) 54 [.int .i64 0, .bool false, .int .i64 0, .int .i64 0, .string Hp.e0] := by
    have := Full.new (w.alloc (.cells #[.int .i64 20, .int .i64 a, .int .i64 b] 86)) #[.int .i64 0, .bool false, .int .i64 0, .int .i64 0, .string Hp.e0] 54
    rw [World.size_alloc] at this
    exact this
  obtain ⟨L2, hlt, hgf, hsp⟩ := h.splitD
  obtain ⟨hN, hMid⟩ := hsp _ bW
  have HK : Hid (∀ w' z R, DoR ((w.alloc (.cells #[.int .i64 20, .int .i64 a, .int .i64 b] 86)).alloc (.cells #[.int .i64 0, .bool false, .int .i64 0, .int .i64 0, .string Hp.e0] 54)) w' g K L2 (.slice (some ⟨gf, 0, none⟩) (n + 1) cap) ov F Q gf (n * 4) z R → Full w' (w.heap.size + 1) 54 [.int .i64 0, .bool false, .int .i64 0, .int .i64 0, .string Hp.e0] ∧ DoR w w' g K L (.slice (some ⟨gf, 0, none⟩) (n + 1) cap) ov F Q gf (n * 4) z R) := fun w' z R q => ⟨((q.kp hgf).block _ fY.lt fun r => by have := hlt _ r; omega).trans fY, DoR.after hMid q⟩
  have d1 := doRead_any hN d.rd d.inp
  generalize hR : (doReadS K S n m.f) = R at d1 ⊢
  clear _u1 _u2 hN hMid hsp hlt hgf fY bW h hG d hR
  go_enter Tryz.func54, Tryz.ntmps54
  go_wp2_with (first
    | (go_at_call 93; refine d1.mono ?_; intro z1 w1 H1; obtain ⟨t1, e1⟩ := DoR.ret H1.out; subst e1; clear d1; obtain ⟨fY1, HD⟩ := HK.out _ _ _ H1.out; obtain ⟨y0, g0⟩ := fY1.cell 0 _ rfl; obtain ⟨y1, g1⟩ := fY1.cell 1 _ rfl; obtain ⟨y2, g2⟩ := fY1.cell 2 _ rfl; obtain ⟨y3, g3⟩ := fY1.cell 3 _ rfl; obtain ⟨y4, g4⟩ := fY1.cell 4 _ rfl)
    | fail)
  rw [five_self fY1]
  refine bodyPost_ret (ret_do fY1 rfl rfl) rfl ?_
  exact DoR.yd HD rfl rfl
end Go.Proofs.YtahdkffijlfmnaaGreatDoor

namespace Go.Proofs.YtahdkffijlfmnaaGreatDoor
open Go.RowKit
open Hp (V vc vcs)
theorem Now.okY {w0 w : World} {g : Nat} {K : Cg} {S : Ms} {L0 : List Fm} {ov : Value} {F Q : Nat → Prop} {gf cap n : Nat} {m : Fm} (h : Now w0 w g K L0 ov F Q gf cap n S m) (y : Yd) : DoY w0 w g K L0 (.slice (some ⟨gf, 0, none⟩) (n + 1) cap) ov F Q gf (n * 4) (.returned (.tuple #[ydV y, .int .i64 0])) (.ok (S, y)) := ⟨rfl, h.ok.2⟩
theorem Now.errY {w0 w : World} {g : Nat} {K : Cg} {S : Ms} {L0 : List Fm} {ov : Value} {F Q : Nat → Prop} {gf cap n : Nat} {m : Fm} (h : Now w0 w g K L0 ov F Q gf cap n S m) (t : Int) : DoY w0 w g K L0 (.slice (some ⟨gf, 0, none⟩) (n + 1) cap) ov F Q gf (n * 4) (.returned (.tuple #[ydV yd0, .int .i64 t])) (.error t) := ⟨rfl, (h.err t).2⟩
theorem five_put {w w1 : World} {B : Nat} {t : TypeId} {a b c d e a' b' c' d' e' : Value} (h : Full w1 B t [a, b, c, d, e]) (hb : Below w.heap.size w w1) (hB : w.heap.size ≤ B) : Full (((((w1.setCell ⟨B, 0, none⟩ a').setCell ⟨B, 1, none⟩ b').setCell ⟨B, 2, none⟩ c').setCell ⟨B, 3, none⟩ d').setCell ⟨B, 4, none⟩ e') B t [a', b', c', d', e'] ∧ Below w.heap.size w (((((w1.setCell ⟨B, 0, none⟩ a').setCell ⟨B, 1, none⟩ b').setCell ⟨B, 2, none⟩ c').setCell ⟨B, 3, none⟩ d').setCell ⟨B, 4, none⟩ e') := ⟨Full.put (g := B) (t := t) [a', b', c', d', e'] (a := []) (b := [a, b, c, d, e]) (d := []) h rfl, ((((hb.setCell (p := ⟨B, 0, none⟩) hB _).setCell (p := ⟨B, 1, none⟩) hB _).setCell (p := ⟨B, 2, none⟩) hB _).setCell (p := ⟨B, 3, none⟩) hB _).setCell (p := ⟨B, 4, none⟩) hB _⟩
set_option maxRecDepth 100000 in
set_option maxHeartbeats 4000000 in
theorem do_0 {w : World} {g : Nat} {K : Cg} {S : Ms} {L : List Fm} {ov : Value} {F Q : Nat → Prop} {gf cap n : Nat} {m : Fm} (h : Now w w g K L ov F Q gf cap n S m) (a b : Int) :
    Calls Tryz.prog 54 #[.pointer (some ⟨g, 0, none⟩), .agg #[.int .i64 0, .int .i64 a, .int .i64 b]] w fun z w' => Hid (DoY w w' g K L (.slice (some ⟨gf, 0, none⟩) (n + 1) cap) ov F Q gf (n * 4) z (.ok (S, yd0))) := by
  have bW : Below w.heap.size w ((w.alloc (.cells #[.int .i64 0, .int .i64 a, .int .i64 b] 86)).alloc (.cells #[.int .i64 0, .bool false, .int .i64 0, .int .i64 0, .string Hp.e0] 54)) := ((Below.refl _ w).alloc (Nat.le_refl _) _).alloc (by simp) _
  have fY : Full ((w.alloc (.cells #[.int .i64 0, .int .i64 a, .int .i64 b] 86)).alloc (.cells #[.int .i64 0, .bool false, .int .i64 0, .int .i64 0, .string Hp.e0] 54)) (w.heap.size + 1) 54 [.int .i64 0, .bool false, .int .i64 0, .int .i64 0, .string Hp.e0] := by
    have := Full.new (w.alloc (.cells #[.int .i64 0, .int .i64 a, .int .i64 b] 86)) #[.int .i64 0, .bool false, .int .i64 0, .int .i64 0, .string Hp.e0] 54
    rw [World.size_alloc] at this
    exact this
  have HN : Hid (Now w ((w.alloc (.cells #[.int .i64 0, .int .i64 a, .int .i64 b] 86)).alloc (.cells #[.int .i64 0, .bool false, .int .i64 0, .int .i64 0, .string Hp.e0] 54)) g K L ov F Q gf cap n S m) := h.next bW
  obtain ⟨y0, g0⟩ := fY.cell 0 _ rfl
  obtain ⟨y1, g1⟩ := fY.cell 1 _ rfl
  obtain ⟨y2, g2⟩ := fY.cell 2 _ rfl
  obtain ⟨y3, g3⟩ := fY.cell 3 _ rfl
  obtain ⟨y4, g4⟩ := fY.cell 4 _ rfl
  go_enter Tryz.func54, Tryz.ntmps54
  go_wp2
  refine bodyPost_ret (ret_do fY rfl rfl) rfl ?_
  exact HN.out.okY yd0
set_option maxRecDepth 100000 in
set_option maxHeartbeats 4000000 in
theorem do_21 {w : World} {g : Nat} {K : Cg} {S : Ms} {L : List Fm} {ov : Value} {F Q : Nat → Prop} {gf cap n : Nat} {m : Fm} (h : Now w w g K L ov F Q gf cap n S m) (a b : Int) :
    Calls Tryz.prog 54 #[.pointer (some ⟨g, 0, none⟩), .agg #[.int .i64 21, .int .i64 a, .int .i64 b]] w fun z w' => Hid (DoY w w' g K L (.slice (some ⟨gf, 0, none⟩) (n + 1) cap) ov F Q gf (n * 4) z (.ok (S, (a, false, (0, 0, Hp.e0))))) := by
  have bW : Below w.heap.size w ((w.alloc (.cells #[.int .i64 21, .int .i64 a, .int .i64 b] 86)).alloc (.cells #[.int .i64 0, .bool false, .int .i64 0, .int .i64 0, .string Hp.e0] 54)) := ((Below.refl _ w).alloc (Nat.le_refl _) _).alloc (by simp) _
  have fY : Full ((w.alloc (.cells #[.int .i64 21, .int .i64 a, .int .i64 b] 86)).alloc (.cells #[.int .i64 0, .bool false, .int .i64 0, .int .i64 0, .string Hp.e0] 54)) (w.heap.size + 1) 54 [.int .i64 0, .bool false, .int .i64 0, .int .i64 0, .string Hp.e0] := by
    have := Full.new (w.alloc (.cells #[.int .i64 21, .int .i64 a, .int .i64 b] 86)) #[.int .i64 0, .bool false, .int .i64 0, .int .i64 0, .string Hp.e0] 54
    rw [World.size_alloc] at this
    exact this
  have d1 := doEmit_any ((w.alloc (.cells #[.int .i64 21, .int .i64 a, .int .i64 b] 86)).alloc (.cells #[.int .i64 0, .bool false, .int .i64 0, .int .i64 0, .string Hp.e0] 54)) g a
  have HFY : Hid (∀ w1, Below ((w.alloc (.cells #[.int .i64 21, .int .i64 a, .int .i64 b] 86)).alloc (.cells #[.int .i64 0, .bool false, .int .i64 0, .int .i64 0, .string Hp.e0] 54)).heap.size ((w.alloc (.cells #[.int .i64 21, .int .i64 a, .int .i64 b] 86)).alloc (.cells #[.int .i64 0, .bool false, .int .i64 0, .int .i64 0, .string Hp.e0] 54)) w1 → Full w1 (w.heap.size + 1) 54 [.int .i64 0, .bool false, .int .i64 0, .int .i64 0, .string Hp.e0] ∧ Below w.heap.size w w1) := fun w1 b1 => ⟨fY.next b1, below2 bW b1⟩
  have HN : Hid _ := h
  unfold yl at d1
  go_enter Tryz.func54, Tryz.ntmps54
  go_wp2_with (first
    | (go_at_call 94; refine d1.mono ?_; rintro z1 w1 ⟨rfl, hb1⟩; clear d1; obtain ⟨ffalse, bfalse⟩ := HFY.out w1 hb1; obtain ⟨y0, g0⟩ := ffalse.cell 0 _ rfl; obtain ⟨y1, g1⟩ := ffalse.cell 1 _ rfl; obtain ⟨y2, g2⟩ := ffalse.cell 2 _ rfl; obtain ⟨y3, g3⟩ := ffalse.cell 3 _ rfl; obtain ⟨y4, g4⟩ := ffalse.cell 4 _ rfl; obtain ⟨fP, bP⟩ := five_put (a' := .int .i64 a) (b' := .bool false) (c' := .int .i64 0) (d' := .int .i64 0) (e' := .string Hp.e0) ffalse bfalse (Nat.le_succ _))
    | fail)
  rw [five_self fP]
  refine bodyPost_ret (ret_do fP rfl rfl) rfl ?_
  exact (HN.out.next bP).okY (a, false, (0, 0, Hp.e0))
set_option maxRecDepth 100000 in
set_option maxHeartbeats 4000000 in
theorem do_23 {w : World} {g : Nat} {K : Cg} {S : Ms} {L : List Fm} {ov : Value} {F Q : Nat → Prop} {gf cap n : Nat} {m : Fm} (h : Now w w g K L ov F Q gf cap n S m) (a b : Int) {xs : List V} {v : V} (hx : m.f.st = xs ++ [v]) (hv : v.2.2.size ≤ 281474976710656) :
    Calls Tryz.prog 54 #[.pointer (some ⟨g, 0, none⟩), .agg #[.int .i64 23, .int .i64 a, .int .i64 b]] w fun z w' => Hid (DoY w w' g K L (.slice (some ⟨gf, 0, none⟩) (n + 1) cap) ov F Q gf (n * 4) z (.ok (S, (a, true, v)))) := by
  have bW : Below w.heap.size w ((w.alloc (.cells #[.int .i64 23, .int .i64 a, .int .i64 b] 86)).alloc (.cells #[.int .i64 0, .bool false, .int .i64 0, .int .i64 0, .string Hp.e0] 54)) := ((Below.refl _ w).alloc (Nat.le_refl _) _).alloc (by simp) _
  have fY : Full ((w.alloc (.cells #[.int .i64 23, .int .i64 a, .int .i64 b] 86)).alloc (.cells #[.int .i64 0, .bool false, .int .i64 0, .int .i64 0, .string Hp.e0] 54)) (w.heap.size + 1) 54 [.int .i64 0, .bool false, .int .i64 0, .int .i64 0, .string Hp.e0] := by
    have := Full.new (w.alloc (.cells #[.int .i64 23, .int .i64 a, .int .i64 b] 86)) #[.int .i64 0, .bool false, .int .i64 0, .int .i64 0, .string Hp.e0] 54
    rw [World.size_alloc] at this
    exact this
  have hsp := fun W b => (h.splitD.choose_spec.2.2 W b).1
  have d1 := doTell_any (hsp ((w.alloc (.cells #[.int .i64 23, .int .i64 a, .int .i64 b] 86)).alloc (.cells #[.int .i64 0, .bool false, .int .i64 0, .int .i64 0, .string Hp.e0] 54)) bW) hx hv a
  have HFY : Hid (∀ w1, Below ((w.alloc (.cells #[.int .i64 23, .int .i64 a, .int .i64 b] 86)).alloc (.cells #[.int .i64 0, .bool false, .int .i64 0, .int .i64 0, .string Hp.e0] 54)).heap.size ((w.alloc (.cells #[.int .i64 23, .int .i64 a, .int .i64 b] 86)).alloc (.cells #[.int .i64 0, .bool false, .int .i64 0, .int .i64 0, .string Hp.e0] 54)) w1 → Full w1 (w.heap.size + 1) 54 [.int .i64 0, .bool false, .int .i64 0, .int .i64 0, .string Hp.e0] ∧ Below w.heap.size w w1) := fun w1 b1 => ⟨fY.next b1, below2 bW b1⟩
  have HN : Hid _ := h
  unfold yl at d1
  go_enter Tryz.func54, Tryz.ntmps54
  go_wp2_with (first
    | (go_at_call 96; refine d1.mono ?_; rintro z1 w1 ⟨rfl, hb1⟩; clear d1; obtain ⟨ftrue, btrue⟩ := HFY.out w1 hb1; obtain ⟨y0, g0⟩ := ftrue.cell 0 _ rfl; obtain ⟨y1, g1⟩ := ftrue.cell 1 _ rfl; obtain ⟨y2, g2⟩ := ftrue.cell 2 _ rfl; obtain ⟨y3, g3⟩ := ftrue.cell 3 _ rfl; obtain ⟨y4, g4⟩ := ftrue.cell 4 _ rfl; obtain ⟨fP, bP⟩ := five_put (a' := .int .i64 a) (b' := .bool true) (c' := .int .i64 v.1) (d' := .int .i64 v.2.1) (e' := .string v.2.2) ftrue btrue (Nat.le_succ _))
    | fail)
  rw [five_self fP]
  refine bodyPost_ret (ret_do fP rfl rfl) rfl ?_
  exact (HN.out.next bP).okY (a, true, v)
set_option maxRecDepth 100000 in
set_option maxHeartbeats 4000000 in
theorem do_22 {w : World} {g : Nat} {K : Cg} {S : Ms} {L : List Fm} {ov : Value} {F Q : Nat → Prop} {gf cap n : Nat} {m : Fm} (h : Now w w g K L ov F Q gf cap n S m) (a : Int) (b : Nat) (hv : ∀ v ∈ m.f.sl, v.2.2.size ≤ 281474976710656) :
    Calls Tryz.prog 54 #[.pointer (some ⟨g, 0, none⟩), .agg #[.int .i64 22, .int .i64 a, .int .i64 (b : Int)]] w fun z w' => Hid (DoY w w' g K L (.slice (some ⟨gf, 0, none⟩) (n + 1) cap) ov F Q gf (n * 4) z (if h : b < m.f.sl.length then .ok (S, (a, true, m.f.sl[b])) else .error 7)) := by
  have bW : Below w.heap.size w ((w.alloc (.cells #[.int .i64 22, .int .i64 a, .int .i64 (b : Int)] 86)).alloc (.cells #[.int .i64 0, .bool false, .int .i64 0, .int .i64 0, .string Hp.e0] 54)) := ((Below.refl _ w).alloc (Nat.le_refl _) _).alloc (by simp) _
  have fY : Full ((w.alloc (.cells #[.int .i64 22, .int .i64 a, .int .i64 (b : Int)] 86)).alloc (.cells #[.int .i64 0, .bool false, .int .i64 0, .int .i64 0, .string Hp.e0] 54)) (w.heap.size + 1) 54 [.int .i64 0, .bool false, .int .i64 0, .int .i64 0, .string Hp.e0] := by
    have := Full.new (w.alloc (.cells #[.int .i64 22, .int .i64 a, .int .i64 (b : Int)] 86)) #[.int .i64 0, .bool false, .int .i64 0, .int .i64 0, .string Hp.e0] 54
    rw [World.size_alloc] at this
    exact this
  have hsp := fun W b => (h.splitD.choose_spec.2.2 W b).1
  have d1 := doShow_any (hsp ((w.alloc (.cells #[.int .i64 22, .int .i64 a, .int .i64 (b : Int)] 86)).alloc (.cells #[.int .i64 0, .bool false, .int .i64 0, .int .i64 0, .string Hp.e0] 54)) bW) a b hv
  have HFY : Hid (∀ w1, Below ((w.alloc (.cells #[.int .i64 22, .int .i64 a, .int .i64 (b : Int)] 86)).alloc (.cells #[.int .i64 0, .bool false, .int .i64 0, .int .i64 0, .string Hp.e0] 54)).heap.size ((w.alloc (.cells #[.int .i64 22, .int .i64 a, .int .i64 (b : Int)] 86)).alloc (.cells #[.int .i64 0, .bool false, .int .i64 0, .int .i64 0, .string Hp.e0] 54)) w1 → Full w1 (w.heap.size + 1) 54 [.int .i64 0, .bool false, .int .i64 0, .int .i64 0, .string Hp.e0] ∧ Below w.heap.size w w1) := fun w1 b1 => ⟨fY.next b1, below2 bW b1⟩
  have HN : Hid _ := h
  unfold yl at d1
  by_cases hb : b < m.f.sl.length
  · rw [dif_pos hb]
    rw [dif_pos hb] at d1
    generalize m.f.sl[b] = v at d1 ⊢
    clear hsp h hb hv
    go_enter Tryz.func54, Tryz.ntmps54
    go_wp2_with (first
      | (go_at_call 95; refine d1.mono ?_; rintro z1 w1 ⟨rfl, hb1⟩; clear d1; obtain ⟨fY1, bY1⟩ := HFY.out w1 hb1; obtain ⟨y0, g0⟩ := fY1.cell 0 _ rfl; obtain ⟨y1, g1⟩ := fY1.cell 1 _ rfl; obtain ⟨y2, g2⟩ := fY1.cell 2 _ rfl; obtain ⟨y3, g3⟩ := fY1.cell 3 _ rfl; obtain ⟨y4, g4⟩ := fY1.cell 4 _ rfl; obtain ⟨fP, bP⟩ := five_put (a' := .int .i64 a) (b' := .bool true) (c' := .int .i64 v.1) (d' := .int .i64 v.2.1) (e' := .string v.2.2) fY1 bY1 (Nat.le_succ _))
      | fail)
    rw [five_self fP]
    refine bodyPost_ret (ret_do fP rfl rfl) rfl ?_
    exact (HN.out.next bP).okY (a, true, v)
  · rw [dif_neg hb]
    rw [dif_neg hb] at d1
    clear hsp h hb hv
    go_enter Tryz.func54, Tryz.ntmps54
    go_wp2_with (first
      | (go_at_call 95; refine d1.mono ?_; rintro z1 w1 ⟨rfl, hb1⟩; clear d1; obtain ⟨fY1, bY1⟩ := HFY.out w1 hb1; obtain ⟨y0, g0⟩ := fY1.cell 0 _ rfl; obtain ⟨y1, g1⟩ := fY1.cell 1 _ rfl; obtain ⟨y2, g2⟩ := fY1.cell 2 _ rfl; obtain ⟨y3, g3⟩ := fY1.cell 3 _ rfl; obtain ⟨y4, g4⟩ := fY1.cell 4 _ rfl; obtain ⟨fP, bP⟩ := five_put (a' := .int .i64 0) (b' := .bool false) (c' := .int .i64 0) (d' := .int .i64 0) (e' := .string Hp.e0) fY1 bY1 (Nat.le_succ _))
      | fail)
    rw [five_self fP]
    refine bodyPost_ret (ret_do fP rfl rfl) rfl ?_
    exact (HN.out.next bP).errY 7
theorem ins_rng {op a b : Int} (h : insS (op, a, b) = true) : 0 ≤ op ∧ op < 24 ∧ shLo.getD (opA.getD op.toNat 0) 0 ≤ a ∧ a ≤ shHi.getD (opA.getD op.toNat 0) 0 ∧ shLo.getD (opB.getD op.toNat 0) 0 ≤ b ∧ b ≤ shHi.getD (opB.getD op.toNat 0) 0 := by
  unfold insS mayS at h
  simp only [Bool.and_eq_true, decide_eq_true_eq] at h
  obtain ⟨h1, h2, ⟨h3, h4, -⟩, h5, h6, -⟩ := h
  exact ⟨h1, h2, h3, h4, h5, h6⟩
theorem do_any {w : World} {g : Nat} {K : Cg} {S : Ms} {L : List Fm} {ov : Value} {F Q : Nat → Prop} {gf cap n : Nat} {m : Fm} (h : Now w w g K L ov F Q gf cap n S m) (hG : GloM w L (.slice (some ⟨gf, 0, none⟩) (n + 1) cap) ov F) {i : Nat} (d : DoOk K S n m i) {op a b : Int} (hi : insS (op, a, b) = true) (hw : wantsT.getD op.toNat 0 ≤ m.f.st.length) :
    Calls Tryz.prog 54 #[.pointer (some ⟨g, 0, none⟩), .agg #[.int .i64 op, .int .i64 a, .int .i64 b]] w fun z w' => Hid (DoY w w' g K L (.slice (some ⟨gf, 0, none⟩) (n + 1) cap) ov F Q gf (n * 4) z (opS K S n m.f i d.fn.2.1 a b op.toNat)) := by
  obtain ⟨h0, h1, a0, a1, b0, b1⟩ := ins_rng hi
  obtain ⟨o, rfl⟩ : ∃ o : Nat, op = (o : Int) := ⟨op.toNat, by omega⟩
  rw [Int.toNat_natCast] at *
  have ho : o < 24 := by omega
  clear h0 h1 hi
  match o, ho with
  | 0, _ => exact do_0 h a b
  | 1, _ => exact do_1 h hG d a b
  | 2, _ => exact do_2 h hG d a b
  | 3, _ =>
    obtain ⟨a', rfl⟩ : ∃ a' : Nat, a = (a' : Int) := ⟨a.toNat, by simp [opA, shLo] at a0; omega⟩
    exact do_3 h hG d a' b
  | 4, _ =>
    obtain ⟨a', rfl⟩ : ∃ a' : Nat, a = (a' : Int) := ⟨a.toNat, by simp [opA, shLo] at a0; omega⟩
    exact do_4 h hG d a' b
  | 5, _ =>
    obtain ⟨a', rfl⟩ : ∃ a' : Nat, a = (a' : Int) := ⟨a.toNat, by simp [opA, shLo] at a0; omega⟩
    exact do_5 h hG d a' b hw
  | 6, _ => exact do_6 h hG d a b hw
  | 7, _ => exact do_7 h hG d a b hw
  | 8, _ => exact do_8 h hG d a b hw
  | 9, _ => exact do_9 h hG d a b
  | 10, _ => exact do_10 h hG d a b hw
  | 11, _ =>
    obtain ⟨a', rfl⟩ : ∃ a' : Nat, a = (a' : Int) := ⟨a.toNat, by simp [opA, shLo] at a0; omega⟩
    exact do_11 h hG d a' b
  | 12, _ => exact do_12 h hG d a b hw
  | 13, _ => exact do_13 h hG d a b
  | 14, _ => exact do_14 h hG d a b hw
  | 15, _ => exact do_15 h hG d a b hw
  | 16, _ => exact do_16 h hG d a b hw
  | 17, _ => exact do_17 h hG d a b hw
  | 18, _ => exact do_18 h hG d a b hw
  | 19, _ =>
    obtain ⟨a', rfl⟩ : ∃ a' : Nat, a = (a' : Int) := ⟨a.toNat, by simp [opA, shLo] at a0; omega⟩
    exact do_19 h hG d a' b (by simp [opA, shHi] at a1; omega)
  | 20, _ => exact do_20 h hG d a b
  | 21, _ => exact do_21 h a b
  | 22, _ =>
    obtain ⟨b', rfl⟩ : ∃ b' : Nat, b = (b' : Int) := ⟨b.toNat, by simp [opB, shLo] at b0; omega⟩
    exact do_22 h a b' (fun v hv => by have := (d.sl v hv).1; omega)
  | k + 24, hk => exact absurd hk (by omega)
  | 23, _ => exact do_23 h a b (last_app hw) (by have := (d.st _ (last_mem hw)).1; omega)
end Go.Proofs.YtahdkffijlfmnaaGreatDoor
