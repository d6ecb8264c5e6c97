import Derived.Test.YtdcioemjmmhbhaaDoorRdQ
import Derived.Test.YtdcioemjmmhbhaaDoorJe
namespace Go.Proofs.YtdcioemjmmhbhaaDoor
open Go.RowKit

theorem HeapC.used {w : World} {p lim : Nat} {A : Hp} {c : Nat} {F : Nat → Prop} (h : HeapC w p lim A c F) : usedS A ≤ lim := by
  obtain ⟨As, rq, rn, rg, ro, av, rfl, h⟩ := h
  exact h.le
/-- What Load has come to. -/
def LdSt (w wr : World) (rb lim c : Nat) (b : ByteArray) (i : Nat) : Prop := ∃ (A' : Hp) (F' : Nat → Prop) (s' : ByteArray) (fl : Bool), A'.length = i ∧ HeapC wr w.heap.size lim A' c F' ∧ Box2 wr rb (.string s') (.bool fl) ∧ s'.size ≤ b.size ∧ (∀ x, F' x → w.heap.size ≤ x) ∧ ¬ F' rb ∧ (fl = false → okH A' c ∧ ∃ r : List UInt8, s' = str r ∧ b = str (numB 72 1 ++ (numB (c : Int) 8 ++ (A'.flatMap arB ++ r))))

def LdOk (w wr : World) (rb lim c : Nat) (b : ByteArray) (i : Nat) (ok : Bool) : Prop := Below w.heap.size w wr ∧ (ok = true → LdSt w wr rb lim c b i)

set_option maxRecDepth 100000 in
set_option maxHeartbeats 4000000 in
theorem load_no (w : World) (l : Int) (b : ByteArray) (hb : b.size ≤ 281474976710656) (hno : ∀ A, ¬ Good l b A) (hz : Zt w) :
    Calls Tryd.prog 18 #[.int .i64 l, .string b] w fun e w' => e = .returned (.tuple #[.pointer none, .int .i64 161]) ∧ Below w.heap.size w w' := by
  have hlim := limS_le l
  have HNO : Hid (∀ A, okH A A.length → usedS A ≤ limS l → b = str (saveS A) → False) := fun A h1 h2 h3 => hno A ⟨h1, h2, h3⟩
  clear hno
  have nw := new_any l w
  generalize limS l = lim at nw hlim HNO ⊢
  go_enter Tryd.func18, Tryd.ntmps18
  go_wp2_with fail
  refine nw.mono ?_
  rintro e w1 ⟨rfl, h1, b1⟩
  have hp1 : w.heap.size < w1.heap.size := h1.flt _ rfl
  have nb : Below w1.heap.size w1 (w1.alloc (.cells #[.string b, .bool false] 94)) := (Below.refl _ w1).alloc (Nat.le_refl _) _
  have bx := Box2.new w1 (.string b) (.bool false) 94
  have hX := h1.next nb
  have BX : Below w.heap.size w (w1.alloc (.cells #[.string b, .bool false] 94)) := below2 b1 nb
  have zX : w1.heap.size < (w1.alloc (.cells #[.string b, .bool false] 94)).heap.size := by simp
  clear nw h1 nb b1
  go_wp2_with fail
  generalize w1.alloc (.cells #[.string b, .bool false] 94) = X at bx hX BX zX ⊢
  generalize w1.heap.size = rb at bx zX hp1 ⊢
  have n1 := number_gen X rb 1 b false (by omega) (by omega) bx
  refine n1.mono ?_
  rintro e w2 ⟨m1, s1, f1, rfl, hq2⟩
  obtain ⟨r2, k2, z2, -, q2⟩ := hq2.out
  have n2 := number_gen w2 rb 8 s1 f1 (by omega) (by omega) r2
  clear n1 bx hq2
  go_wp2_with fail
  refine n2.mono ?_
  rintro e w3 ⟨L, s3, f3, rfl, hq3⟩
  obtain ⟨r3, k3, z3, ⟨a3, ha3, -⟩, q3⟩ := hq3.out
  have hLr : inR L := by rw [ha3]; exact numV_range a3
  clear ha3
  have k23 : Kp (fun x => x = rb) X w3 := k2.trans k3 (fun _ _ q => q)
  have h3 := hX.kept k23 (fun x hx e => by omega)
  have B3 : Below w.heap.size w w3 := BX.trans (k23.below (fun k hk => by omega) (by have := BX.size; omega))
  have HB3 : Hid (Below w.heap.size w w3) := B3
  by_cases hmL : m1 = 72 ∧ 0 ≤ L
  case neg =>
    clear n2 hq3 r2 r3 k2 k3 k23 h3 B3 hX BX HNO q2 q3
    by_cases hm : m1 = 72
    · have hL : ¬ (0 ≤ L) := fun q => hmL ⟨hm, q⟩
      have hL' : L < 0 := by omega
      subst hm
      clear hmL
      go_wp2_with fail
      go_loopw [10] (fun g wr => g = .bool false ∧ wr = w3) (fun _ _ => 0)
      case atStart => exact ⟨by first | rfl | (simp; omega), rfl⟩
      case round =>
        obtain ⟨rfl, rfl⟩ := hrel
        go_wp2
        first | (change bodyPost Tryd.prog Tryd.f18 _ Exit.ret _ _) | (simp only [Exit.noGoto])
        exact bodyPost_ret (v := .tuple #[.pointer none, .int .i64 161]) (by simp [results, Tryd.results18, go_sem]) rfl ⟨rfl, HB3.out⟩
    · have hm' : (m1 == 72) = false := by simpa using hm
      clear hmL
      go_wp2_with fail
      go_loopw [10] (fun g wr => g = .bool false ∧ wr = w3) (fun _ _ => 0)
      case atStart => exact ⟨rfl, rfl⟩
      case round =>
        obtain ⟨rfl, rfl⟩ := hrel
        go_wp2
        first | (change bodyPost Tryd.prog Tryd.f18 _ Exit.ret _ _) | (simp only [Exit.noGoto])
        exact bodyPost_ret (v := .tuple #[.pointer none, .int .i64 161]) (by simp [results, Tryd.results18, go_sem]) rfl ⟨rfl, HB3.out⟩
  obtain ⟨rfl, hL⟩ := hmL
  obtain ⟨c, rfl⟩ : ∃ c : Nat, L = (c : Int) := ⟨L.toNat, by omega⟩
  have hcr : (c : Int) ≤ 9223372036854775807 := hLr.2
  have HST : Hid (LdOk w w3 rb lim c b 0 true) := by
    refine ⟨B3, fun _ => ⟨[], fun b => b = w.heap.size, s3, f3, rfl, ?_, r3, by omega, fun x hx => ?_, fun e => ?_, fun hf => ?_⟩⟩
    · obtain ⟨As, rq, rn, rg, ro, av, e, q⟩ := h3
      have ea : As = [] := by
        unfold absA at e
        exact List.map_eq_nil_iff.1 e
      subst ea
      exact ⟨[], rq, rn, rg, ro, av, rfl, q.recount c (fun a ha => by cases ha)⟩
    · have : x = w.heap.size := hx
      omega
    · have : rb = w.heap.size := e
      omega
    · obtain ⟨g1, r, g2, g3⟩ := q3 hf
      obtain ⟨-, r', g4, g5⟩ := q2 g1
      have := str_inj (g5.symm.trans g2)
      subst this
      exact ⟨fun a ha => (by cases ha), r, g3, g4⟩
  clear n2 hq3 r2 r3 k2 k3 k23 h3 B3 HB3 hX BX q2 q3
  go_wp2_with fail
  go_loopw [10, 11] (fun g v wr => ∃ (ok : Bool) (i : Nat), i ≤ c ∧ g = .bool ok ∧ v = .int .i64 (i : Int) ∧ Hid (LdOk w wr rb lim c b i ok)) (fun _ v _ => c - (intOf v).toNat)
  case atStart => exact ⟨true, 0, Nat.zero_le _, rfl, rfl, HST⟩
  case round =>
    obtain ⟨ok, i, hi, rfl, rfl, hq⟩ := hrel
    clear HST
    have HB : Hid (Below w.heap.size w wr) := hq.out.1
    cases ok
    case false =>
      clear hq
      go_wp2
      first | (change bodyPost Tryd.prog Tryd.f18 _ Exit.ret _ _) | (simp only [Exit.noGoto])
      exact bodyPost_ret (v := .tuple #[.pointer none, .int .i64 161]) (by simp [results, Tryd.results18, go_sem]) rfl ⟨rfl, HB.out⟩
    obtain ⟨A', F', s', fl, hAi, h4, r4, hs4, hF4, hr4, hfl⟩ := hq.out.2 rfl
    by_cases hlt : i < c
    case neg =>
      obtain rfl : i = c := by omega
      have l0 := r4.1.1
      have l1 := r4.2.1
      have hu := h4.used
      cases fl
      case true =>
        clear h4 r4 hq hfl
        go_wp2
        first | (change bodyPost Tryd.prog Tryd.f18 _ Exit.ret _ _) | (simp only [Exit.noGoto])
        exact bodyPost_ret (v := .tuple #[.pointer none, .int .i64 161]) (by simp [results, Tryd.results18, go_sem]) rfl ⟨rfl, HB.out⟩
      obtain ⟨hok, r, rfl, hbr⟩ := hfl rfl
      have hne : r ≠ [] := fun e => by
        subst e
        refine HNO.out A' (by rw [hAi]; exact hok) hu ?_
        rw [hbr, save_eq, hAi, List.append_nil]
      have hne' : ((str r).toList == []) = false := by
        rw [beq_eq_false_iff_ne, ByteArray.toList_eq, str_data]
        exact hne
      clear h4 r4 hq hfl hbr hok hne
      generalize str r = s' at *
      go_wp2
      first | (change bodyPost Tryd.prog Tryd.f18 _ Exit.ret _ _) | (simp only [Exit.noGoto])
      exact bodyPost_ret (v := .tuple #[.pointer none, .int .i64 161]) (by simp [results, Tryd.results18, go_sem]) rfl ⟨rfl, HB.out⟩
    have hz4 : Zt wr := hz.same (HB.out.block 0 hz.pos)
    have hrd := read_gen h4 hz4 (fun e => by have := hF4 0 e; have := hz.pos; omega) rb (by omega) hr4 hlim s' fl (by omega) r4
    have HNX : Hid (∀ (W : World) (ok : Bool), Hid (Kp (fun x => F' x ∨ x = rb) wr W ∧ (ok = true → Rdd wr W w.heap.size lim A' c F' rb s' fl)) → Hid (LdOk w W rb lim c b (i + 1) ok)) := fun W ok hW => by
      obtain ⟨q3, q4⟩ := hW.out
      refine ⟨HB.out.trans (q3.below (fun k hk => by rcases hk with r | r; exact hF4 k r; omega) HB.out.size), fun hok => ?_⟩
      obtain ⟨F'', k, els, bb, g1, g2, g3, g4, g5, g6, g7⟩ := q4 hok
      obtain ⟨p1, r, p2, p3⟩ := hfl g1
      have hrr := str_inj (p2.symm.trans g2)
      subst hrr
      refine ⟨A' ++ [(k, els)], F'', str bb, false, by rw [List.length_append, hAi]; rfl, g5, g6, ?_, fun x hx => ?_, fun e => ?_, fun _ => ⟨fun a ha => ?_, bb, rfl, ?_⟩⟩
      · rw [p2, str_size, List.length_append] at hs4
        rw [str_size]
        omega
      · rcases g7 x hx with r | r
        · exact hF4 x r
        · have := HB.out.size
          omega
      · rcases g7 rb e with r | r
        · exact hr4 r
        · have := block_lt_of_cell r4.1.1
          simp only at this
          omega
      · rcases List.mem_append.1 ha with q | q
        · exact p1 a q
        · rw [List.mem_singleton.1 q]
          exact ⟨g3, g4⟩
      · rw [p3, List.flatMap_append]
        simp
    have i1 : (i : Int) < (c : Int) := Int.ofNat_lt.2 hlt
    clear hq h4 hz4 r4 hfl HB
    go_wp2_with fail
    refine hrd.mono ?_
    rintro e w5 ⟨ok, rfl, hq5⟩
    have HN := HNX.out w5 ok hq5
    clear hrd HNX
    go_wp2_with fail
    clear hcr hLr hb hlim
    refine ⟨⟨ok, i + 1, Nat.succ_le_of_lt hlt, rfl, congrArg (Value.int IntKind.i64) (Int.natCast_succ i).symm, HN⟩, ?_⟩
    simp only [intOf]
    omega
end Go.Proofs.YtdcioemjmmhbhaaDoor
