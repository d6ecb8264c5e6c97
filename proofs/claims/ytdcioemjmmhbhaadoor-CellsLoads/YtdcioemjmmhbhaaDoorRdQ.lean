import Derived.Test.YtdcioemjmmhbhaaDoorJd
import Derived.Test.YtdcioemjmmhbhaaDoorReadW
namespace Go.Proofs.YtdcioemjmmhbhaaDoor
open Go.RowKit

theorem str_inj {a b : List UInt8} (h : str a = str b) : a = b := by
  have := congrArg (fun x : ByteArray => x.data.toList) h
  simpa [str] using this
theorem Half.swap {w : World} {p lim : Nat} {A : Hp} {k : Int} {els els' : List V} {j c : Nat} {F : Nat → Prop} {q : Option Addr} {g o : Nat} (h : Half w p lim A k els j c F q g o) (h1 : els.take j = els'.take j) (h2 : els.length = els'.length) : Half w p lim A k els' j c F q g o := by
  obtain ⟨As, rq, rn, rg, ro, av, g1, g2, g3, g4⟩ := h.heap
  exact ⟨⟨As, rq, rn, rg, ro, av, g1, g2, by rw [g3, h1, h2], g4⟩⟩
/-- What has been read, with zeros behind it. -/
def padE (E : List V) (n : Nat) (k : Int) : List V := E ++ List.replicate (n - E.length) (k, 0, e0)
theorem padE_len {E : List V} {n : Nat} {k : Int} (h : E.length ≤ n) : (padE E n k).length = n := by
  unfold padE
  rw [List.length_append, List.length_replicate]
  omega
theorem padE_take {E : List V} {n : Nat} {k : Int} : (padE E n k).take E.length = E := by
  unfold padE
  rw [List.take_left]
theorem Half.putE {w : World} {p lim : Nat} {A : Hp} {k : Int} {E : List V} {n c : Nat} {F : Nat → Prop} {q : Option Addr} {g o : Nat} (h : Half w p lim A k (padE E n k) E.length c F q g o) (v : V) (hj : E.length < n) (hm : mayS v k c = true) :
    (q = some ⟨g, o, none⟩ ∧ w.there g (o + E.length * 3) 3 ∧ F g) ∧ Half (w.setCells g (o + E.length * 3) (vc v)) p lim A k (padE (E ++ [v]) n k) (E.length + 1) c F q g o := by
  have hl : (E ++ [v]).length ≤ n := by rw [List.length_append]; simp; omega
  have hlt : E.length < (padE (E ++ [v]) n k).length := by rw [padE_len hl]; exact hj
  have hget : (padE (E ++ [v]) n k)[E.length] = v := by
    have e : (padE (E ++ [v]) n k)[E.length]? = some v := by
      unfold padE
      rw [List.append_assoc, List.getElem?_append_right (Nat.le_refl _)]
      simp
    rw [List.getElem?_eq_getElem hlt] at e
    exact Option.some.inj e
  have h' := h.swap (els' := padE (E ++ [v]) n k) (by
    rw [padE_take]
    unfold padE
    rw [List.append_assoc, List.take_left]) (by rw [padE_len (Nat.le_of_lt hj), padE_len hl])
  have := h'.put hlt (by rw [hget]; exact hm)
  rw [hget] at this
  exact this
/-- What Make answers where it does not refuse. -/
theorem make_yes {A : Hp} {lim : Nat} {k L : Int} (h : (makeH A lim k L).2.2 = 0) : (1 ≤ k ∧ k ≤ 4) ∧ ∃ n : Nat, L = (n : Int) ∧ usedS A + (n + 1) ≤ lim ∧ makeH A lim k L = (A ++ [(k, List.replicate n (k, 0, e0))], (4, (A.length : Int) + 1, e0), 0) := by
  unfold makeH at h ⊢
  split at h
  · simp only at h
    omega
  rename_i h1
  split at h
  · simp only at h
    omega
  rename_i h2
  split at h
  · simp only at h
    omega
  rename_i h3
  refine ⟨by omega, L.toNat, by omega, by omega, ?_⟩
  rw [if_neg h1, if_neg h2, if_neg h3]
theorem make_not {A : Hp} {lim : Nat} {k L : Int} (h : (makeH A lim k L).2.2 ≠ 0) : ∃ t : Int, t ≠ 0 ∧ makeH A lim k L = (A, zv, t) := by
  unfold makeH at h ⊢
  split
  · exact ⟨7, by decide, rfl⟩
  rename_i h1
  rw [if_neg h1] at h
  split
  · exact ⟨2, by decide, rfl⟩
  rename_i h2
  rw [if_neg h2] at h
  split
  · exact ⟨4, by decide, rfl⟩
  rename_i h3
  rw [if_neg h3] at h
  exact absurd rfl h
/-- What read makes of any rest. -/
def Rdd (w w' : World) (p lim : Nat) (A : Hp) (c : Nat) (F : Nat → Prop) (rb : Nat) (s : ByteArray) (bd : Bool) : Prop := ∃ (F' : Nat → Prop) (k : Int) (els : List V) (b : List UInt8), bd = false ∧ s = str (arB (k, els) ++ b) ∧ (1 ≤ k ∧ k ≤ 4) ∧ (∀ v ∈ els, mayS v k c = true ∧ inR v.2.1) ∧ HeapC w' p lim (A ++ [(k, els)]) c F' ∧ Box2 w' rb (.string (str b)) (.bool false) ∧ ∀ x, F' x → F x ∨ w.heap.size ≤ x

set_option maxRecDepth 100000 in
set_option maxHeartbeats 4000000 in
theorem read_gen {w : World} {p lim : Nat} {A : Hp} {c : Nat} {F : Nat → Prop} (h : HeapC w p lim A c F) (hz : Zt w) (hF0 : ¬ F 0) (rb : Nat) (hrb0 : rb ≠ 0) (hrF : ¬ F rb) (hlim : lim ≤ 100000) (s : ByteArray) (bd : Bool) (hs : s.size ≤ 281474976710656) (hr : Box2 w rb (.string s) (.bool bd)) :
    Calls Tryd.prog 41 #[.pointer (some ⟨p, 0, none⟩), .pointer (some ⟨rb, 0, none⟩), .int .i64 (c : Int)] w fun e w' => ∃ ok : Bool, e = .returned (.bool ok) ∧ Hid (Kp (fun x => F x ∨ x = rb) w w' ∧ (ok = true → Rdd w w' p lim A c F rb s bd)) := by
  have hrl : rb < w.heap.size := block_lt_of_cell hr.1.1
  have hAl : A.length ≤ 100000 := by
    obtain ⟨As, rq, rn, rg, ro, av, e, h1⟩ := h
    have := h1.len.1
    rw [← e, abs_len]
    exact this
  have n1 := number_gen w rb 1 s bd (by omega) (by omega) hr
  clear hr
  go_enter Tryd.func41, Tryd.ntmps41
  go_wp2_with fail
  refine n1.mono ?_
  rintro e w1 ⟨k, s1, f1, rfl, hq1⟩
  obtain ⟨r1, k1, z1, ⟨a1, ha1, -⟩, q1⟩ := hq1.out
  have hkr : inR k := by rw [ha1]; exact numV_range a1
  have wk : IntKind.i64.wrap k = k := by rw [IntKind.wrap_i64]; unfold inR at hkr; omega
  have HQ1 : Hid (f1 = false → bd = false ∧ ∃ b : List UInt8, s = str (numB k 1 ++ b) ∧ s1 = str b) := q1
  have n2 := number_gen w1 rb 8 s1 f1 (by omega) (by omega) r1
  clear n1 hq1 ha1 q1
  go_wp2_with fail
  refine n2.mono ?_
  rintro e w2 ⟨L, s2, f2, rfl, hq2⟩
  obtain ⟨r2, k2, z2, -, q2⟩ := hq2.out
  have HQ2 : Hid (f2 = false → f1 = false ∧ ∃ b : List UInt8, s1 = str (numB L 8 ++ b) ∧ s2 = str b) := q2
  have k12 : Kp (fun x => x = rb) w w2 := k1.trans k2 (fun _ _ q => q)
  have h2 := h.kept k12 (fun x hx e => hrF (e ▸ hx))
  have hz2 : Zt w2 := hz.same (k12.block 0 hz.pos (fun e => hrb0 e.symm))
  have hmk := makeC_any h2 hz2 hF0 k L
  have hrl2 : rb < w2.heap.size := block_lt_of_cell r2.1.1
  have q12 : Kp (fun x => F x ∨ x = rb) w w2 := ⟨k12.os, k12.tape, k12.output, k12.size, fun x hx hn => k12.block x hx (fun e => hn (.inr e))⟩
  clear n2 hq2 q2
  by_cases hM : (makeH A lim k L).2.2 = 0
  case neg =>
    obtain ⟨t, ht, hR⟩ := make_not hM
    rw [hR] at hmk
    simp only at hmk
    rw [show (vc zv).toArray = #[.int .i64 0, .int .i64 0, .string e0] from rfl] at hmk
    go_wp2_with fail
    refine hmk.mono ?_
    rintro e w3 ⟨rfl, hq3⟩
    obtain ⟨F3, h3, k3, s3⟩ := hq3.out
    have r3 := r2.same (k3.block rb hrl2 hrF)
    have nb : Below w3.heap.size w3 (w3.alloc (.cells #[.int .i64 0, .int .i64 0, .string e0] 37)) := (Below.refl _ w3).alloc (Nat.le_refl _) _
    have rX := r3.below nb (block_lt_of_cell r3.1.1)
    have HK : Hid (Kp (fun x => F x ∨ x = rb) w (w3.alloc (.cells #[.int .i64 0, .int .i64 0, .string e0] 37))) := (q12.trans k3 (fun x _ hx => .inl hx)).next nb
    have x4 := rX.2.1
    have ht' : (t == 0) = false := by simpa using ht
    clear h h2 h3 hz2 hmk hq3 r1 r2 r3 k1 k2 k3 nb k12 s3 hz hR hM rX q12
    cases f2
    · go_wp2
      exact bodyPost_ret (v := .bool false) (by simp [results, Tryd.results41, go_sem]) rfl ⟨false, rfl, HK.out, fun e => by cases e⟩
    · go_wp2
      exact bodyPost_ret (v := .bool false) (by simp [results, Tryd.results41, go_sem]) rfl ⟨false, rfl, HK.out, fun e => by cases e⟩
  obtain ⟨hk, n, rfl, hle, hR⟩ := make_yes hM
  rw [hR] at hmk
  simp only at hmk
  rw [show (vc (4, (A.length : Int) + 1, e0)).toArray = #[.int .i64 4, .int .i64 ((A.length : Int) + 1), .string e0] from rfl] at hmk
  clear hM hR
  go_wp2_with fail
  refine hmk.mono ?_
  rintro e w3 ⟨rfl, hq3⟩
  obtain ⟨F3, h3, k3, s3⟩ := hq3.out
  have r3 := r2.same (k3.block rb hrl2 hrF)
  have nb : Below w3.heap.size w3 (w3.alloc (.cells #[.int .i64 4, .int .i64 ((A.length : Int) + 1), .string e0] 37)) := (Below.refl _ w3).alloc (Nat.le_refl _) _
  have rX := r3.below nb (block_lt_of_cell r3.1.1)
  have KX : Kp (fun x => F x ∨ x = rb) w (w3.alloc (.cells #[.int .i64 4, .int .i64 ((A.length : Int) + 1), .string e0] 37)) := (q12.trans k3 (fun x _ hx => .inl hx)).next nb
  have x4 := rX.2.1
  cases f2
  case true =>
    have HK : Hid (Kp (fun x => F x ∨ x = rb) w (w3.alloc (.cells #[.int .i64 4, .int .i64 ((A.length : Int) + 1), .string e0] 37))) := KX
    clear h h2 h3 hz2 hmk hq3 r1 r2 r3 k1 k2 k3 nb k12 s3 hz rX q12 KX
    go_wp2
    exact bodyPost_ret (v := .bool false) (by simp [results, Tryd.results41, go_sem]) rfl ⟨false, rfl, HK.out, fun e => by cases e⟩
  obtain ⟨rfl, b2, e2, rfl⟩ := HQ2.out rfl
  obtain ⟨rfl, b1, e1, rfl⟩ := HQ1.out rfl
  have e2' := str_inj e2
  subst e2'
  have HS : Hid (s = str (numB k 1 ++ (numB (n : Int) 8 ++ b2))) := e1
  have hn1 : n ≤ 100000 := by omega
  have hs2 : b2.length ≤ s.size := by
    rw [HS.out, str_size, List.length_append, List.length_append]
    omega
  have hls : (List.replicate n ((k, 0, e0) : V)).length = n := List.length_replicate
  have h3' : HeapC w3 p lim (A ++ [(k, List.replicate (List.replicate n ((k, 0, e0) : V)).length (k, 0, e0))]) c F3 := by rw [hls]; exact h3
  obtain ⟨q, g, o, vq, vcp, HF, d3, dv⟩ := half_start (h3'.next nb)
  rw [hls] at dv
  have hF3 : ∀ x, F3 x → F x ∨ w.heap.size ≤ x := fun x hx => by
    rcases s3 x hx with r | r
    · exact .inl r
    · have := k12.size
      exact .inr (by omega)
  have hrF3 : ¬ F3 rb := fun r => by
    rcases hF3 rb r with r | r
    · exact hrF r
    · omega
  obtain ⟨⟨⟨x0, f0⟩, ⟨x1, f1⟩⟩, x2, f2⟩ := Box3.new w3 4 ((A.length : Int) + 1) e0 37
  have HRX : Hid (Box2 (w3.alloc (.cells #[.int .i64 4, .int .i64 ((A.length : Int) + 1), .string e0] 37)) rb (.string (str b2)) (.bool false)) := rX
  clear h h2 h3 h3' hz2 hmk hq3 r1 r2 r3 k1 k2 k3 nb rX k12 s3 hz e1 e2 HQ1 HQ2 q12 z1 z2
  go_upto_region 5 with fail
  generalize w3.alloc (.cells #[.int .i64 4, .int .i64 ((A.length : Int) + 1), .string e0] 37) = X at HF d3 dv KX x0 x1 x2 f0 f1 f2 x4 HRX ⊢
  have y1 := cell_regrown x1
  have y3 := cell_regrown d3
  have yv := cell_regrown dv
  have hw : IntKind.i64.wrap (A.length : Int) = (A.length : Int) := by rw [IntKind.wrap_i64]; omega
  have hw' : wrap64 (A.length : Int) = (A.length : Int) := by unfold wrap64; omega
  have i0 : (0 : Int) ≤ (A.length : Int) := Int.natCast_nonneg _
  have i1 : (A.length : Int) < (A.length : Int) + 1 := Int.lt_succ _
  go_wp2_with fail
  refine wp_region_quiet_below (by kernel_rfl) (by kernel_rfl) ?_
  repeat (first | go_big_quiet_step (first | fail) | quiet_step (first | fail))
  refine wpQuiet_nil ?_
  intro _ hw'
  obtain ⟨⟨dq, osq⟩, hw''⟩ := hw'
  subst hw''
  have hY := below_regrown X dq osq
  change Exit.then _ _ Exit.normal _ (Sort.grow (redrawn X dq) osq)
  generalize Sort.grow (redrawn X dq) osq = Y at hY ⊢
  clear y1 y3 yv x0 x1 x2 f0 f1 f2 d3 dv x4 hw hw'
  have HF2 : Hid (Half Y p lim A k (padE [] n k) 0 c F3 q g o) := by
    have e : padE [] n k = List.replicate n (k, 0, e0) := by simp [padE]
    rw [e]
    exact HF.next hY
  have HR2 : Hid (Box2 Y rb (.string (str b2)) (.bool false)) := HRX.out.below hY (block_lt_of_cell HRX.out.1.1)
  have HK2 : Hid (Kp (fun x => F x ∨ x = rb) w Y) := KX.next hY
  clear HF KX HRX hY
  go_wp2_with fail
  go_loopw [45] (fun v wr => ∃ (E : List V) (b' : List UInt8), E.length ≤ n ∧ v = .int .i64 (E.length : Int) ∧ Hid (b2 = E.flatMap elB ++ b' ∧ ∀ v ∈ E, mayS v k c = true ∧ inR v.2.1) ∧ Hid (Half wr p lim A k (padE E n k) E.length c F3 q g o) ∧ Hid (Box2 wr rb (.string (str b')) (.bool false)) ∧ Hid (Kp (fun x => F x ∨ x = rb) w wr)) (fun v _ => n - (intOf v).toNat)
  case atStart => exact ⟨[], b2, Nat.zero_le _, rfl, ⟨rfl, fun v hv => by cases hv⟩, HF2, HR2, HK2⟩
  case round =>
    obtain ⟨E, b', hj, rfl, hE, hH, hR, hK⟩ := hrel
    clear HF2 HR2 HK2
    by_cases hlt : E.length < n
    case neg =>
      obtain rfl : n = E.length := by omega
      have HFIN : Hid (Kp (fun x => F x ∨ x = rb) w wr ∧ (true = true → Rdd w wr p lim A c F rb s false)) := by
        refine ⟨hK.out, fun _ => ⟨F3, k, E, b', rfl, ?_, hk, hE.out.2, ?_, hR.out, hF3⟩⟩
        · rw [HS.out, arB_app, hE.out.1]
        · obtain ⟨As, rq, rn, rg, ro, av, h1, _, h3, _⟩ := hH.out.heap
          have e : padE E E.length k = E := by simp [padE]
          rw [e, List.take_length, Nat.sub_self, List.replicate_zero, List.append_nil] at h3
          exact ⟨As, rq, rn, rg, ro, av, h3, h1⟩
      clear hH hR hK hE HS
      go_wp2
      first | (change bodyPost Tryd.prog Tryd.f41 _ Exit.ret _ _) | (simp only [Exit.noGoto])
      exact bodyPost_ret (v := .bool true) (by simp [results, Tryd.results41, go_sem]) rfl (.inr ⟨rfl, HFIN.out.1, HFIN.out.2 (by trivial)⟩)
    have hbl : b'.length ≤ b2.length := by
      rw [hE.out.1, List.length_append]
      omega
    have hel := element_gen wr rb k (str b') false (by rw [str_size]; omega) hR.out
    have j0 : (0 : Int) ≤ (E.length : Int) := by omega
    have j1 : (E.length : Int) < (n : Int) := by omega
    go_wp2_with fail
    refine hel.mono ?_
    rintro e w4 ⟨vn, vs, rfl, hq4⟩
    obtain ⟨s4, f4, r4, k4, z4, ⟨in4, t4⟩, q4⟩ := hq4.out
    have nb4 : Below w4.heap.size w4 (w4.alloc (.cells #[.int .i64 k, .int .i64 vn, .string vs] 37)) := (Below.refl _ w4).alloc (Nat.le_refl _) _
    have b13 := Box3.new w4 k vn vs 37
    have l1 := (r4.below nb4 (block_lt_of_cell r4.1.1)).2.1
    have HK4 : Hid (Kp (fun x => F x ∨ x = rb) w w4) := hK.out.trans k4 (fun _ _ e => .inr e)
    obtain ⟨⟨⟨p0, g0⟩, ⟨p1, g1⟩⟩, p2, g2⟩ := id b13
    have hmay := fun W : World => mayBe_any k vn vs k c W (by omega)
    cases f4
    case true =>
      have HNO : Hid (∀ W, Below w4.heap.size w4 W → Kp (fun x => F x ∨ x = rb) w W ∧ (false = true → Rdd w W p lim A c F rb s false)) := fun W hW => ⟨HK4.out.next hW, fun e => by cases e⟩
      have n9 := HNO.out _ nb4
      have HN9 : Hid _ := n9
      clear hH hR hK hE HS hel hq4 r4 k4 q4 n9 HNO
      go_wp2
      first | (change bodyPost Tryd.prog Tryd.f41 _ Exit.ret _ _) | (simp only [Exit.noGoto])
      exact bodyPost_ret (v := .bool false) (by simp [results, Tryd.results41, go_sem]) rfl ⟨false, rfl, HN9⟩
    obtain ⟨-, b4, e4, rfl⟩ := q4 rfl
    have e4' := str_inj e4
    by_cases hm : mayS (k, vn, vs) k c = true
    case neg =>
      have hm' : mayS (k, vn, vs) k c = false := by simpa using hm
      rw [hm'] at hmay
      have HNO : Hid (∀ W, Below w4.heap.size w4 W → Hid (Kp (fun x => F x ∨ x = rb) w W ∧ (false = true → Rdd w W p lim A c F rb s false))) := fun W hW => ⟨HK4.out.next hW, fun e => by cases e⟩
      clear hH hR hK hE HS hel hq4 r4 k4 q4 hm hm' e4 e4'
      go_wp2_with (first
        | (go_at_call 52; refine (hmay _).mono ?_; rintro e w5 ⟨rfl, hb5⟩; have HN9 := HNO.out w5 (below2 nb4 hb5))
        | go_in)
      first | (change bodyPost Tryd.prog Tryd.f41 _ Exit.ret _ _) | (simp only [Exit.noGoto])
      exact bodyPost_ret (v := .bool false) (by simp [results, Tryd.results41, go_sem]) rfl ⟨false, rfl, HN9⟩
    rw [hm] at hmay
    have H1 : Hid ((#[.int .i64 k, .int .i64 vn, .string vs] : Array Value).all (·.oneCell') = true) := one3 _ _ _
    have HE2 : Hid (b2 = (E ++ [(k, vn, vs)]).flatMap elB ++ b4 ∧ ∀ v ∈ E ++ [(k, vn, vs)], mayS v k c = true ∧ inR v.2.1) := by
      refine ⟨?_, fun v hv => ?_⟩
      · rw [hE.out.1, e4', List.flatMap_append, List.append_assoc]
        simp
      · rcases List.mem_append.1 hv with r | r
        · exact hE.out.2 v r
        · rw [List.mem_singleton.1 r]
          exact ⟨hm, in4⟩
    have HNX2 : Hid (∀ W6, Below w4.heap.size w4 W6 → (q = some ⟨g, o, none⟩ ∧ W6.there g (o + E.length * 3) 3) ∧ Hid (Half (W6.setCells g (o + E.length * 3) (vc (k, vn, vs))) p lim A k (padE (E ++ [(k, vn, vs)]) n k) (E.length + 1) c F3 q g o) ∧ Hid (Box2 (W6.setCells g (o + E.length * 3) (vc (k, vn, vs))) rb (.string (str b4)) (.bool false)) ∧ Hid (Kp (fun x => F x ∨ x = rb) w (W6.setCells g (o + E.length * 3) (vc (k, vn, vs))))) := fun W6 hb6 => by
      have h4 := (hH.out.kept k4 (fun x hx e => hrF3 (e ▸ hx))).next hb6
      obtain ⟨⟨t1, t2, t3⟩, t4⟩ := h4.putE (k, vn, vs) hlt hm
      have hgr : rb ≠ g := fun e => hrF3 (e ▸ t3)
      refine ⟨⟨t1, t2⟩, t4, (r4.below hb6 (block_lt_of_cell r4.1.1)).same (sets_heap hgr _ _ _), ?_⟩
      refine Kp.setCells (F := fun x => F x ∨ x = rb) ?_ _ _ (HK4.out.next hb6)
      rcases hF3 g t3 with r | r
      · exact .inl (.inl r)
      · exact .inr r
    obtain ⟨⟨rfl, -⟩, -⟩ := HNX2.out w4 (Below.refl _ _)
    clear hH hR hK hE HS hel hq4 r4 k4 q4 e4 e4' hm
    go_wp2_with (first
      | (go_at_call 52; refine (hmay _).mono ?_; rintro e w5 ⟨rfl, hb5⟩; obtain ⟨⟨-, hth⟩, n1, n2, n3⟩ := HNX2.out w5 (below2 nb4 hb5); obtain ⟨⟨⟨s0, -⟩, ⟨s1, -⟩⟩, s2, -⟩ := b13.below hb5 (by simp); have HTH : Hid (w5.there g (o + E.length * 3) (#[.int .i64 k, .int .i64 vn, .string vs] : Array Value).size) := hth; clear hth)
      | (refine wpList_store_mid (by rfl) 37 (.tmp 65) (.tmp 64) (by rfl) g (o + E.length * 3) #[.int .i64 k, .int .i64 vn, .string vs] (by rfl) (by rfl) HTH.out size37 H1.out ?_)
      | go_in)
    have hEl : (E ++ [(k, vn, vs)]).length = E.length + 1 := by simp
    exact ⟨⟨E ++ [(k, vn, vs)], b4, by rw [hEl]; omega, by rw [hEl]; go_num, HE2, by rw [hEl]; exact n1, n2, n3⟩, by simp [intOf]; omega⟩
end Go.Proofs.YtdcioemjmmhbhaaDoor
