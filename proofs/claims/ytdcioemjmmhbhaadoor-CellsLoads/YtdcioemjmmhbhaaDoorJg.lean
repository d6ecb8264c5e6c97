import Derived.Test.YtdcioemjmmhbhaaDoorBytes
import Derived.Test.YtdcioemjmmhbhaaDoorApp1
import Derived.Test.YtdcioemjmmhbhaaDoorArrs
import Derived.Test.YtdcioemjmmhbhaaDoorBookE
namespace Go.Proofs.YtdcioemjmmhbhaaDoor
open Go.RowKit

/-- The text of the mark of the list i. -/
def sgT (i : Nat) : ByteArray := ⟨#[UInt8.ofNat (i % 256), UInt8.ofNat (i / 256 % 256), UInt8.ofNat (i / 65536)]⟩
/-- The mark of the list i at the place j. -/
def sgV (i j : Nat) : V := (9, (j : Int), sgT i)

set_option maxRecDepth 100000 in
set_option maxHeartbeats 1000000 in
theorem sign_any (w : World) (i j : Nat) (hi : i ≤ 1000000) :
    Calls Tryd.prog 42 #[.int .i64 (i : Int), .int .i64 (j : Int)] w fun e w' => e = .returned (.agg #[.int .i64 9, .int .i64 (j : Int), .string (sgT i)]) ∧ Below w.heap.size w w' := by
  have hB0 : ∀ o1 o2 : Obj, Below w.heap.size w ((w.alloc o1).alloc o2) := fun o1 o2 => ((Below.refl _ w).alloc (Nat.le_refl _) _).alloc (by simp) _
  obtain ⟨X, hX⟩ : ∃ X, (w.alloc (.cells #[.int .i64 0, .int .i64 0, .string ⟨#[]⟩] 37)).alloc (.cells #[.int .u8 ((i : Int) % 256), .int .u8 ((i : Int) / 256 % 256), .int .u8 ((i : Int) / 65536)] 5) = X := ⟨_, rfl⟩
  have bX : Below w.heap.size w X := by rw [← hX]; exact hB0 _ _
  have h1 : X.heap[w.heap.size + 1]? = some (.cells #[.int .u8 ((i : Int) % 256), .int .u8 ((i : Int) / 256 % 256), .int .u8 ((i : Int) / 65536)] 5) := by
    rw [← hX]
    have := World.alloc_heap_new (w.alloc (.cells #[.int .i64 0, .int .i64 0, .string ⟨#[]⟩] 37)) (.cells #[.int .u8 ((i : Int) % 256), .int .u8 ((i : Int) / 256 % 256), .int .u8 ((i : Int) / 65536)] 5)
    rw [World.size_alloc] at this
    exact this
  have h0 : X.heap[w.heap.size]? = some (.cells #[.int .i64 0, .int .i64 0, .string ⟨#[]⟩] 37) := by
    rw [← hX, Below.heap_alloc _ _ _ (by simp)]
    exact World.alloc_heap_new w _
  have bk : Blk X w.heap.size 37 3 := ⟨_, h0, by decide⟩
  have TH := bk.there 0 3 (by omega)
  have hcv : (convert 87 9 (.slice (some ⟨w.heap.size + 1, 0, none⟩) 3 3)).run Tryd.prog X = .ok (.string (sgT i)) X := by
    refine run_convert_bytes_back (P := Tryd.prog) X 87 9 5 ⟨w.heap.size + 1, 0, none⟩ 3 [UInt8.ofNat (i % 256), UInt8.ofNat (i / 256 % 256), UInt8.ofNat (i / 65536)] Tryd.underlying87 Tryd.underlying5 Tryd.underlying9 (fun j hj => ?_)
    have hj3 : j < 3 := hj
    have e2 : ((UInt8.ofNat (i / 65536)).toNat : Int) = (i : Int) / 65536 := by simp; omega
    rw [Addr.add_mid]
    have : j = 0 ∨ j = 1 ∨ j = 2 := by omega
    rcases this with rfl | rfl | rfl
    · simp only [World.cell?, h1]
      simp
    · simp only [World.cell?, h1]
      simp
    · simp only [World.cell?, h1]
      simp only [List.getElem_cons_succ, List.getElem_cons_zero, e2]
      rfl
  have HS : Hid (∀ u : ByteArray, Below w.heap.size w (X.setCells w.heap.size 0 (vc (9, (j : Int), u))) ∧ (X.setCells w.heap.size 0 (vc (9, (j : Int), u))).rangeAt w.heap.size 0 (vc (9, (j : Int), u))) := fun u => ⟨bX.trans ((Kp.setCells (F := fun b => b = w.heap.size) (.inl rfl) _ _ (Kp.refl _ X)).below (fun k hk => by omega) bX.size), World.rangeAt_setCells_same X w.heap.size 0 _ TH⟩
  have HTH : Hid (X.there w.heap.size 0 (#[.int .i64 9, .int .i64 (j : Int), .string (sgT i)] : Array Value).size) := TH
  have H1 : Hid ((#[.int .i64 9, .int .i64 (j : Int), .string (sgT i)] : Array Value).all (·.oneCell') = true) := one3 _ _ _
  clear hB0 bX bk TH h0 h1
  go_enter Tryd.func42, Tryd.ntmps42
  go_wp2_with (first
    | (refine wpList_store_mid (by rfl) 37 (.tmp 4) (.tmp 16) (by rfl) w.heap.size 0 #[.int .i64 9, .int .i64 (j : Int), .string (sgT i)] (by rfl) (by rfl) HTH.out size37 H1.out ?_)
    | go_in)
  obtain ⟨hb, hr⟩ := HS.out (sgT i)
  have p0 : (X.setCells w.heap.size 0 [.int .i64 9, .int .i64 (j : Int), .string (sgT i)]).cell? ⟨w.heap.size, 0, none⟩ = some (.int .i64 9) := hr 0 _ rfl
  have p1 : (X.setCells w.heap.size 0 [.int .i64 9, .int .i64 (j : Int), .string (sgT i)]).cell? ⟨w.heap.size, 1, none⟩ = some (.int .i64 (j : Int)) := hr 1 _ rfl
  have p2 : (X.setCells w.heap.size 0 [.int .i64 9, .int .i64 (j : Int), .string (sgT i)]).cell? ⟨w.heap.size, 2, none⟩ = some (.string (sgT i)) := hr 2 _ rfl
  have hb' : Below w.heap.size w (X.setCells w.heap.size 0 [.int .i64 9, .int .i64 (j : Int), .string (sgT i)]) := hb
  clear hb hr HS hcv hX HTH H1
  generalize X.setCells w.heap.size 0 [.int .i64 9, .int .i64 (j : Int), .string (sgT i)] = Y at p0 p1 p2 hb' ⊢
  exact bodyPost_ret (v := .agg #[.int .i64 9, .int .i64 (j : Int), .string (sgT i)]) (by simp [results, Tryd.results42, go_sem, p0, p1, p2, Act.put]) rfl ⟨rfl, hb'⟩
end Go.Proofs.YtdcioemjmmhbhaaDoor
namespace Go.Proofs.YtdcioemjmmhbhaaDoor
open Go.RowKit

/-- An element of a list of its own is written. -/
theorem own_setV {w : World} {B g n cap : Nat} {l : List V} (hl : l.length = n) (h : w.ownsRow B 37 3 (.slice (some ⟨g, 0, none⟩) n cap) n (vcs l)) (N : Nat) (hN : N < n) (x : V) : (w.setCells g (N * 3) (vc x)).ownsRow B 37 3 (.slice (some ⟨g, 0, none⟩) n cap) n (vcs (l.set N x)) := by
  have hbk := own_blk h g rfl
  refine own_sets h _ _ _ (by rw [vcs_len, List.length_set, hl]) fun i hi => ?_
  have hfs := flat_set vc 3 (fun _ => rfl) l N (by omega) x i
  unfold vcs
  rw [hfs]
  split
  · rename_i hu
    obtain ⟨y, hy⟩ : ∃ y, (vc x)[i - N * 3]? = some y := ⟨_, List.getElem?_eq_getElem (show i - N * 3 < 3 by omega)⟩
    have := World.rangeAt_setCells_same w g (N * 3) (vc x) (hbk.there _ _ (by show _ + 3 ≤ _; omega)) (i - N * 3) y hy
    rw [show N * 3 + (i - N * 3) = i by omega] at this
    rw [this, hy]
  · rename_i hu
    rw [World.cell?_setCells_out _ _ _ _ _ (fun _ _ => by show i < N * 3 ∨ N * 3 + 3 ≤ i; omega)]
    have hc := h.cellAt (g := g) i hi
    exact hc

theorem Ans.put {w : World} {b : Nat} {Ls : List (List V)} {v : Value} {vs : List Value} (h : Ans w b Ls v vs) (i j g : Nat) (hi : i < Ls.length) (hj : j < Ls[i].length) (hv : vs[i]? = some (.slice (some ⟨g, 0, none⟩) Ls[i].length Ls[i].length)) (x : V) : Ans (w.setCells g (j * 3) (vc x)) b (Ls.set i (Ls[i].set j x)) v vs := by
  obtain ⟨q, h1, hel⟩ := h.own i hi
  rw [hv] at h1
  cases h1
  have hbk := own_blk hel g rfl
  have hs : ∀ k, k ≠ g → (w.setCells g (j * 3) (vc x)).heap[k]? = w.heap[k]? := fun k hk => sets_heap hk _ _ _
  refine ⟨by rw [List.length_set]; exact h.len, by rw [List.length_set]; exact own_same h.out fun k hk => hs k ((own_blk h.out k hk).ne hbk (by decide)), fun k hk => ?_, h.sep⟩
  have hk' : k < Ls.length := by rw [List.length_set] at hk; exact hk
  by_cases e : k = i
  · subst e
    rw [List.getElem_set_self]
    simp only [List.length_set]
    exact ⟨_, hv, own_setV rfl hel j hj x⟩
  · rw [List.getElem_set_ne (Ne.symm e)]
    obtain ⟨q', h1', h2'⟩ := h.own k hk'
    refine ⟨q', h1', own_same h2' fun k' hk2 => hs k' (fun e2 => ?_)⟩
    subst e2
    have hk3 : k < vs.length := by rw [h.len]; exact hk'
    have hi3 : i < vs.length := by rw [h.len]; exact hi
    have e1 : vs[k] = .slice q' Ls[k].length Ls[k].length := by rw [List.getElem?_eq_getElem hk3] at h1'; exact Option.some.inj h1'
    have e3 : vs[i] = .slice (some ⟨k', 0, none⟩) Ls[i].length Ls[i].length := by rw [List.getElem?_eq_getElem hi3] at hv; exact Option.some.inj hv
    have hp := List.pairwise_iff_getElem.1 h.sep
    rcases Nat.lt_or_gt_of_ne e with q | q
    · have := hp k i hk3 hi3 q
      rw [e1, e3] at this
      exact this k' hk2 rfl
    · have := hp i k hi3 hk3 q
      rw [e1, e3] at this
      exact this k' rfl hk2

/-- The marks of the first n places of the list k. -/
def mks (k n : Nat) : List V := (List.range n).map fun j => sgV k j
theorem mks_len (k n : Nat) : (mks k n).length = n := by simp [mks]
theorem mks_succ (k n : Nat) : mks k (n + 1) = mks k n ++ [sgV k n] := by simp [mks, List.range_succ]
theorem mks_at (k n j : Nat) (h : j < (mks k n).length) : (mks k n)[j] = sgV k j := by simp [mks]

/-- The lists up to i are marked, the next one up to j. -/
def Mkd (Ls C : List (List V)) (i j : Nat) : Prop := C.map List.length = Ls.map List.length ∧ ∀ k l (hk : k < C.length) (hl : l < C[k].length), (k < i ∨ (k = i ∧ l < j)) → C[k][l] = sgV k l
theorem Mkd.len {Ls C : List (List V)} {i j : Nat} (h : Mkd Ls C i j) : C.length = Ls.length := by have := congrArg List.length h.1; simpa using this
theorem Mkd.lenAt {Ls C : List (List V)} {i j : Nat} (h : Mkd Ls C i j) (k : Nat) (hk : k < Ls.length) : (C[k]'(by rw [h.len]; exact hk)).length = Ls[k].length := by
  have hk' : k < C.length := by rw [h.len]; exact hk
  have e : (C.map List.length)[k]? = (Ls.map List.length)[k]? := by rw [h.1]
  rw [List.getElem?_map, List.getElem?_map, List.getElem?_eq_getElem hk, List.getElem?_eq_getElem hk'] at e
  simpa using e
theorem Mkd.start (Ls : List (List V)) : Mkd Ls Ls 0 0 := ⟨rfl, fun k l hk hl h => by omega⟩
theorem Mkd.step {Ls C : List (List V)} {i j : Nat} (h : Mkd Ls C i j) (hi : i < C.length) : Mkd Ls (C.set i (C[i].set j (sgV i j))) i (j + 1) := by
  refine ⟨?_, fun k l hk hl hh => ?_⟩
  · rw [← h.1, List.map_set, List.length_set]
    apply List.ext_getElem?
    intro k
    rw [List.getElem?_set]
    split
    · rename_i e
      subst e
      rw [if_pos (by rw [List.length_map]; exact hi), List.getElem?_map, List.getElem?_eq_getElem hi]
      rfl
    · rfl
  · have hk' : k < C.length := by rw [List.length_set] at hk; exact hk
    by_cases e : i = k
    · subst e
      simp only [List.getElem_set_self] at hl ⊢
      rw [List.length_set] at hl
      rw [List.getElem_set]
      split
      · rename_i e2
        rw [e2]
      · exact h.2 i l hk' hl (by omega)
    · simp only [List.getElem_set_ne e] at hl ⊢
      exact h.2 k l hk' hl (by omega)
theorem Mkd.next {Ls C : List (List V)} {i j : Nat} (h : Mkd Ls C i j) (hj : ∀ hi : i < C.length, C[i].length ≤ j) : Mkd Ls C (i + 1) 0 := ⟨h.1, fun k l hk hl hh => h.2 k l hk hl (by
  by_cases e : k = i
  · subst e
    have := hj hk
    omega
  · omega)⟩
theorem Mkd.all {Ls C : List (List V)} (h : Mkd Ls C Ls.length 0) (k : Nat) (hk : k < C.length) : C[k] = mks k C[k].length := by
  apply List.ext_getElem
  · rw [mks_len]
  · intro l hl hl2
    rw [mks_at]
    exact h.2 k l hk hl (.inl (by rw [← h.len]; exact hk))

/-- The blocks of the lists. -/
def bkL (vs : List Value) (g : Nat) : Prop := ∃ (k : Nat) (x : Value), vs[k]? = some x ∧ x.ownBlock = some g
/-- The lists that were lengthened. -/
def Lng (w : World) (b : Nat) (ns : List Nat) (us : List Value) : Prop := ∀ (k : Nat) (u : Value) (n : Nat), us[k]? = some u → ns[k]? = some n → w.ownsRow b 37 3 u (n + 70) (vcs (mks k (n + 70)))
theorem Lng.next {w w' : World} {b : Nat} {ns : List Nat} {us : List Value} (h : Lng w b ns us) (hb : Below w.heap.size w w') : Lng w' b ns us := fun k u n h1 h2 => own_next (h k u n h1 h2) hb
theorem Lng.push {w w' : World} {b c : Nat} {ns : List Nat} {us : List Value} {u v : Value} {n : Nat} (h : Lng w b ns us) (hc : us.length = c) (hn : ns[c]? = some n) (hu : w.ownsRow b 37 3 u (n + 70) (vcs (mks c (n + 70)))) (ho : w.ownsRow b 59 1 v c us) (hg : w.grownBy w' v.ownBlock) : Lng w' b ns (us ++ [u]) := by
  have hkeep : ∀ {x : Value} {n : Nat} {xs : List Value}, w.ownsRow b 37 3 x n xs → w'.ownsRow b 37 3 x n xs := fun {x n xs} hx => own_same hx fun g hg' => hg.block g (hx.lt g hg').2 (fun e => own_ne ho (own_blk hx g hg') (by decide) e.symm)
  intro k x m h1 h2
  by_cases hk : k < us.length
  · rw [List.getElem?_append_left hk] at h1
    exact hkeep (h k x m h1 h2)
  · rw [List.getElem?_append_right (by omega)] at h1
    have hk2 : k - us.length = 0 := by
      have := (List.getElem?_eq_some_iff.1 h1).1
      simp at this
      omega
    rw [hk2] at h1
    simp only [List.getElem?_cons_zero, Option.some.injEq] at h1
    subst h1
    have : k = c := by omega
    subst this
    rw [hn] at h2
    cases h2
    exact hkeep hu
theorem Ans.at {w : World} {b O cap : Nat} {Ls C : List (List V)} {vs : List Value} {i j : Nat} (h : Ans w b C (.slice (some ⟨O, 0, none⟩) Ls.length cap) vs) (hM : Mkd Ls C i j) (k : Nat) (hk : k < Ls.length) : ∃ q, vs[k]? = some (.slice q Ls[k].length Ls[k].length) ∧ w.cell? ⟨O, k, none⟩ = some (.slice q Ls[k].length Ls[k].length) ∧ (0 < Ls[k].length → ∃ g, q = some ⟨g, 0, none⟩) ∧ w.ownsRow b 37 3 (.slice q Ls[k].length Ls[k].length) Ls[k].length (vcs (C[k]'(by rw [hM.len]; exact hk))) := by
  have hk' : k < C.length := by rw [hM.len]; exact hk
  obtain ⟨q, h1, h2⟩ := h.own k hk'
  have e := hM.lenAt k hk
  rw [e] at h1 h2
  refine ⟨q, h1, ?_, ?_, h2⟩
  · have ho := h.out
    rw [hM.len] at ho
    exact (ho.cellAt (g := O) k (by omega)).trans h1
  · intro h0
    obtain ⟨q', cp, e1, _, hr⟩ := own_slice h2
    cases e1
    obtain ⟨g, rfl, _⟩ := hr h0
    exact ⟨g, rfl⟩
theorem vc_one (x : V) : ∀ u ∈ vc x, u.oneCell' = true := fun u hu => vcs_one (l := [x]) u (by simpa [vcs] using hu)
end Go.Proofs.YtdcioemjmmhbhaaDoor
