import Derived.Deep.AppendSrc
import Derived.Test.YtahdkffijlfmnaaGreatDoorT07
import Derived.Test.YtahdkffijlfmnaaGreatDoorT10
import Derived.Test.YtahdkffijlfmnaaGreatDoorT11
import Derived.Test.YtahdkffijlfmnaaGreatDoorT12
namespace Go.Proofs.YtahdkffijlfmnaaGreatDoor
open Go.RowKit
open Hp (V vc vcs)
def obk : Value → Option Nat
  | .slice (some a) _ c => if c = 0 then none else some a.block
  | _ => none
theorem obk_own {v : Value} {g : Nat} (h : obk v = some g) : v.ownBlock = some g := by
  unfold obk at h
  split at h
  · split at h
    · cases h
    · exact h
  · cases h
theorem obk_pos {a : Addr} {n c : Nat} (h : 0 < c) : obk (.slice (some a) n c) = some a.block := by
  show (if c = 0 then none else some a.block) = _
  rw [if_neg (by omega)]
theorem obk_zero (q : Option Addr) (n : Nat) : obk (.slice q n 0) = none := by
  cases q <;> rfl
def Bkw (w : World) (g : Nat) (t : TypeId) (n : Nat) : Prop := ∃ cur fz, w.heap[g]? = some (.cells cur t fz) ∧ n ≤ cur.size
theorem Blk.w {w : World} {g : Nat} {t : TypeId} {n : Nat} (h : Blk w g t n) : Bkw w g t n := by obtain ⟨c, h1, h2⟩ := h; exact ⟨c, _, h1, h2⟩
theorem Bkw.lt {w : World} {g : Nat} {t : TypeId} {n : Nat} (h : Bkw w g t n) : g < w.heap.size := by obtain ⟨_, _, h, _⟩ := h; exact (Array.getElem?_eq_some_iff.1 h).1
theorem Bkw.ne {w : World} {g b : Nat} {t u : TypeId} {n m : Nat} (h : Bkw w g t n) (k : Bkw w b u m) (ht : t ≠ u) : g ≠ b := by
  rintro rfl
  obtain ⟨c, f, h1, -⟩ := h
  obtain ⟨c', f', k1, -⟩ := k
  rw [h1] at k1
  injection k1 with k1
  injection k1 with _ k1 _
  exact ht k1
def OwnM (w : World) (e : TypeId) (sz : Nat) (v : Value) (n : Nat) (xs : List Value) : Prop :=
  (e = 5 ∧ sz = 1) ∧ xs.length = n ∧ ∃ g cap cur fz, v = .slice (some ⟨g, 0, none⟩) n cap ∧ w.heap[g]? = some (.cells cur 5 fz) ∧ cur.size ≤ fz.1 ∧ n ≤ cap ∧ cap ≤ maxLen ∧ cur.size = cap ∧ cur.toList.take n = xs
def OwnR (w : World) (e : TypeId) (sz : Nat) (v : Value) (n : Nat) (xs : List Value) : Prop :=
  w.ownsRow 0 e sz v n xs ∨ (∃ q, v = .slice q 0 0 ∧ n = 0 ∧ xs = []) ∨ OwnM w e sz v n xs
theorem rown_len {w : World} {e : TypeId} {sz : Nat} {v : Value} {n : Nat} {xs : List Value} (h : OwnR w e sz v n xs) : xs.length = n * sz := by
  rcases h with h | ⟨q, -, rfl, rfl⟩ | ⟨⟨-, rfl⟩, h, -⟩
  · exact h.1
  · simp
  · omega
theorem rown_same {w w' : World} {e : TypeId} {sz : Nat} {v : Value} {n : Nat} {xs : List Value} (h : OwnR w e sz v n xs) (hk : ∀ g, obk v = some g → w'.heap[g]? = w.heap[g]?) : OwnR w' e sz v n xs := by
  rcases h with h | h | h
  · rcases h.2 with ⟨rfl, rfl⟩ | ⟨g, cap, cur, rfl, h1, h2, h3, h4, h5, h6⟩
    · exact .inl ⟨h.1, .inl ⟨rfl, rfl⟩⟩
    · by_cases hc : cap = 0
      · subst hc
        obtain rfl : n = 0 := by omega
        refine .inr (.inl ⟨_, rfl, rfl, List.eq_nil_of_length_eq_zero ?_⟩)
        have := h.1
        omega
      · exact .inl (own_same h fun g' hg => hk g' (by rw [obk_pos (by omega)]; exact hg))
  · exact .inr (.inl h)
  · obtain ⟨he, hl, g, cap, cur, fz, rfl, h1, h2, h3, h4, h5, h6⟩ := h
    by_cases hc : cap = 0
    · subst hc
      obtain rfl : n = 0 := by omega
      exact .inr (.inl ⟨_, rfl, rfl, List.eq_nil_of_length_eq_zero hl⟩)
    · exact .inr (.inr ⟨he, hl, g, cap, cur, fz, rfl, (hk g (obk_pos (by omega))).trans h1, h2, h3, h4, h5, h6⟩)
theorem rown_bk {w : World} {e : TypeId} {sz : Nat} {v : Value} {n : Nat} {xs : List Value} (h : OwnR w e sz v n xs) : ∀ g, obk v = some g → Bkw w g e (n * sz) := fun g hg => by
  rcases h with h | ⟨q, rfl, -, -⟩ | ⟨⟨rfl, rfl⟩, hl, g', cap, cur, fz, rfl, h1, h2, h3, h4, h5, h6⟩
  · exact (own_blk h g (obk_own hg)).w
  · rw [obk_zero] at hg; cases hg
  · have := obk_own hg
    cases this
    exact ⟨cur, fz, h1, by omega⟩
theorem rown_blk {w : World} {e : TypeId} {sz : Nat} {v : Value} {n : Nat} {xs : List Value} (h : OwnR w e sz v n xs) (g : Nat) (hg : obk v = some g) (he : e ≠ 5 := by decide) : Blk w g e (n * sz) := by
  rcases h with h | ⟨q, rfl, -, -⟩ | ⟨⟨q, -⟩, -⟩
  · exact own_blk h g (obk_own hg)
  · rw [obk_zero] at hg; cases hg
  · exact absurd q he
theorem rown_neW {w : World} {e : TypeId} {sz : Nat} {v : Value} {n : Nat} {xs : List Value} (h : OwnR w e sz v n xs) {b : Nat} {t : TypeId} {m : Nat} (k : Bkw w b t m) (ht : t ≠ e) : obk v ≠ some b := fun q => (rown_bk h b q).ne k (Ne.symm ht) rfl
theorem rown_ne {w : World} {e : TypeId} {sz : Nat} {v : Value} {n : Nat} {xs : List Value} (h : OwnR w e sz v n xs) {b : Nat} {t : TypeId} {m : Nat} (k : Blk w b t m) (ht : t ≠ e) : obk v ≠ some b := rown_neW h k.w ht
theorem ownM_range {w : World} {g n : Nat} {cur : Array Value} {fz : Nat × Nat} {xs : List Value} (h1 : w.heap[g]? = some (.cells cur 5 fz)) (h6 : cur.toList.take n = xs) : w.rangeAt g 0 xs := fun j v hv => by
  rw [Nat.zero_add]
  simp only [World.cell?, h1]
  rw [← h6, List.getElem?_take] at hv
  split at hv
  · simpa using hv
  · cases hv
theorem rown_slice {w : World} {e : TypeId} {sz : Nat} {v : Value} {n : Nat} {xs : List Value} (h : OwnR w e sz v n xs) : ∃ q cap, v = .slice q n cap ∧ n ≤ cap ∧ (0 < n → ∃ g, q = some ⟨g, 0, none⟩ ∧ w.rangeAt g 0 xs) := by
  rcases h with h | ⟨q, rfl, rfl, -⟩ | ⟨-, hl, g, cap, cur, fz, rfl, h1, h2, h3, h4, h5, h6⟩
  · exact own_slice h
  · exact ⟨q, 0, rfl, Nat.le_refl _, fun h => absurd h (by omega)⟩
  · exact ⟨_, cap, rfl, h3, fun _ => ⟨g, rfl, ownM_range h1 h6⟩⟩
theorem rown_next {w w' : World} {e : TypeId} {sz : Nat} {v : Value} {n : Nat} {xs : List Value} (h : OwnR w e sz v n xs) (k : Below w.heap.size w w') : OwnR w' e sz v n xs := rown_same h fun g hg => k.block g (rown_bk h g hg).lt
theorem rown_own {w : World} {e : TypeId} {sz : Nat} {a : Addr} {n c : Nat} {xs : List Value} (h : OwnR w e sz (.slice (some a) n c) n xs) (hc : 0 < c) (he : e ≠ 5 := by decide) : w.ownsRow 0 e sz (.slice (some a) n c) n xs := by
  rcases h with h | ⟨q, e, -, -⟩ | ⟨⟨q, -⟩, -⟩
  · exact h
  · cases e; omega
  · exact absurd q he
theorem rown_cell {w : World} {e : TypeId} {sz : Nat} {g n cap : Nat} {xs : List Value} (h : OwnR w e sz (.slice (some ⟨g, 0, none⟩) n cap) n xs) (j : Nat) (hj : j < n * sz) : w.cell? ⟨g, j, none⟩ = xs[j]? := by
  have hn : 0 < n := by rcases Nat.eq_zero_or_pos n with rfl | h <;> omega
  have hl := rown_len h
  obtain ⟨q, c, e1, hc, hq⟩ := rown_slice h
  cases e1
  obtain ⟨g', e2, hr⟩ := hq hn
  cases e2
  have hjl : j < xs.length := by omega
  have := hr j xs[j] (List.getElem?_eq_getElem hjl)
  rw [Nat.zero_add] at this
  rw [this, List.getElem?_eq_getElem hjl]
theorem runM_src {P : Program} (w : World) (t tx ty : TypeId) (z : Value) (bytes : Nat) (ht : P.underlying t = some (.slice 5)) (hinf : (P.info? 5).map (fun i => (i.zero, i.size, i.bytes)) = some (some z, 1, bytes)) (hzs : z.cells.size = 1) (hby : bytes ≤ 100)
    (v : Value) (n : Nat) (xs : List Value) (hown : OwnM w 5 1 v n xs) (x : Value) (m : Nat) (news : List Value) (hs : Src P 1 tx x m news w) (hm : 0 < m) (h40 : n + m ≤ 1000000000) :
    ∃ v' w', (Builtin.append_ #[t, tx] ty #[v, x]).run P w = .ok v' w' ∧ OwnR w' 5 1 v' (n + m) (xs ++ news) ∧ w.grownBy w' (obk v) ∧ (obk v' = obk v ∨ obk v' = some w.heap.size) := by
  obtain ⟨i, hi, hz0, hz1, hz2⟩ := info_parts hinf
  obtain ⟨-, hl, g, cap, cur, fz, rfl, h1, h2, h3, h4, h5, h6⟩ := hown
  have hnl : news.length = m := by have := hs.newsLen; omega
  have hs' : Src P i.size tx x m news w := by rw [hz1]; exact hs
  by_cases hroom : n + m ≤ cap
  · have hob : obk (.slice (some ⟨g, 0, none⟩) n cap) = some g := obk_pos (a := ⟨g, 0, none⟩) (by omega)
    have hth : ∀ j, j < news.length → (w.cell? ⟨g, 0 + n * i.size + j, none⟩).isSome = true ∧ w.frozen? ⟨g, 0 + n * i.size + j, none⟩ = false := fun j hj => by
      rw [hz1]
      have hlt : 0 + n * 1 + j < cur.size := by omega
      refine ⟨?_, ?_⟩
      · simp only [World.cell?, h1]
        simp
        omega
      · have : ¬ (fz.1 ≤ n + j) := by omega
        simp only [World.frozen?, h1]
        simp [this]
    have hr := run_append_room_src (P := P) w t tx ty 5 i ht hi g 0 n cap x m news hs' hroom (fun j hj => (hth j hj).1) (fun j hj => (hth j hj).2)
    have hmid : w.there g (0 + n * i.size) news.length := fun j hj => hth j hj
    rw [hz1, Nat.zero_add, Nat.mul_one] at hr hmid
    obtain ⟨c, q1, q2⟩ := sets_self g news n w cur h1
    have kp : Kp (fun b => b = g) w (w.setCells g n news) := Kp.setCells (F := fun b => b = g) (.inl rfl) _ _ (Kp.refl _ _)
    refine ⟨_, _, hr, .inr (.inr ⟨⟨rfl, rfl⟩, by rw [List.length_append]; omega, g, cap, c, fz, rfl, q1, by omega, hroom, h4, by omega, ?_⟩), ⟨kp.os, kp.tape, kp.output, kp.size, fun k hk hne => kp.block k hk fun e => hne (by rw [hob, e])⟩, .inl (by rw [hob]; exact obk_pos (a := ⟨g, 0, none⟩) (by omega))⟩
    apply List.ext_getElem?
    intro j
    rw [List.getElem?_take]
    by_cases hj : j < n + m
    · rw [if_pos hj]
      have hcell : c.toList[j]? = (w.setCells g n news).cell? ⟨g, j, none⟩ := by
        simp only [World.cell?, q1]
        simp
      rw [hcell]
      by_cases hjn : j < n
      · rw [World.cell?_setCells_out _ _ _ _ _ (fun _ _ => by show j < n ∨ n + news.length ≤ j; omega), List.getElem?_append_left (by omega)]
        have := ownM_range h1 h6 j xs[j] (List.getElem?_eq_getElem (by omega))
        rw [Nat.zero_add] at this
        rw [this, List.getElem?_eq_getElem (by omega)]
      · rw [List.getElem?_append_right (by omega), hl]
        have hjm : j - n < news.length := by omega
        have := World.rangeAt_setCells_same w g n news hmid (j - n) news[j - n] (List.getElem?_eq_getElem hjm)
        rw [show n + (j - n) = j by omega] at this
        rw [this, List.getElem?_eq_getElem hjm]
    · rw [if_neg hj, List.getElem?_eq_none (by rw [List.length_append]; omega)]
  · have hold : (Builtin.firstCells i.size n (.slice (some ⟨g, 0, none⟩) n cap)).run P w.drew = .ok xs.toArray w.drew := run_firstCells_some (P := P) w.drew i.size n ⟨g, 0, none⟩ n cap xs (by rw [hz1]; omega) (fun j u hu => by
      rw [Addr.add_mid]
      have := ownM_range h1 h6 j u hu
      simpa using this)
    have hr := run_append_grow_src (P := P) w t tx ty 5 i z ht hi hz0 (some ⟨g, 0, none⟩) n cap xs hold x m news hs' (by omega) (by omega) (by rw [hz2]; exact growslice_fits (by omega) (Nat.le_trans (Nat.mul_le_mul h40 hby) (by decide)))
    have hge := grownCap_ge w (n + m) cap 5
    have hcm : grownCap w (n + m) cap 5 ≤ maxLen := grownCap_le_maxLen w (n + m) cap 5 (by unfold maxLen; omega)
    have hlen : (xs ++ news).length = n + m := by rw [List.length_append]; omega
    refine ⟨_, _, hr, .inl ⟨by rw [hlen]; omega, .inr ⟨w.heap.size, _, _, rfl, Nat.zero_le _, heap_alloc_new w.drew _, hge, hcm, ?_, ?_⟩⟩, ⟨rfl, rfl, rfl, by simp, fun k hk _ => heap_alloc_old w.drew _ hk⟩, .inr (obk_pos (a := ⟨w.heap.size, 0, none⟩) (by omega))⟩
    · simp only [Array.size_append, List.size_toArray, size_zeroCells, hlen, hzs]
      omega
    · simp only [Array.toList_append]
      rw [show (n + m) * 1 = (xs ++ news).length by omega]
      exact List.take_left
theorem runR_app {P : Program} (w : World) (t ty e : TypeId) (z : Value) (size bytes : Nat) (ht : P.underlying t = some (.slice e)) (hinf : (P.info? e).map (fun i => (i.zero, i.size, i.bytes)) = some (some z, size, bytes)) (hzs : z.cells.size = size) (hsz : 0 < size) (hby : bytes ≤ 100)
    (v : Value) (n : Nat) (xs : List Value) (hown : OwnR w e size v n xs) (g : Nat) (C : List Value) (hC : C.length = size) (h1 : ∀ u ∈ C, u.oneCell' = true) (hr : w.rangeAt g 0 C) (h40 : n + 1 ≤ 1000000000) :
    ∃ v' w', (Builtin.append_ #[t, t] ty #[v, .slice (some ⟨g, 0, none⟩) 1 1]).run P w = .ok v' w' ∧ OwnR w' e size v' (n + 1) (xs ++ C) ∧ w.grownBy w' (obk v) ∧ (obk v' = obk v ∨ obk v' = some w.heap.size) := by
  obtain ⟨i, hi, hz0, hz1, hz2⟩ := info_parts hinf
  have hb : (n + 1) * bytes ≤ 140737488355328 := Nat.le_trans (Nat.mul_le_mul h40 hby) (by decide)
  have hnews : ∀ j u, C[j]? = some u → w.cell? ((⟨g, 0, none⟩ : Addr).add j) = some u := fun j u hu => by rw [Addr.add_mid]; exact hr j u hu
  have full : ∀ {w' : World} {v' : Value} {m : Nat} {ys : List Value}, w'.ownsRow 0 e size v' (m + 1) ys → obk v' = v'.ownBlock := fun h => by
    obtain ⟨q, c, rfl, hc, hq⟩ := own_slice h
    obtain ⟨g', rfl, -⟩ := hq (by omega)
    rw [obk_pos (by omega)]
    rfl
  have base : ∀ v, w.ownsRow 0 e size v n xs → obk v = v.ownBlock → ∃ v' w', (Builtin.append_ #[t, t] ty #[v, .slice (some ⟨g, 0, none⟩) 1 1]).run P w = .ok v' w' ∧ OwnR w' e size v' (n + 1) (xs ++ C) ∧ w.grownBy w' (obk v) ∧ (obk v' = obk v ∨ obk v' = some w.heap.size) := fun v ho hov => by
    obtain ⟨v', w', a1, a2, a3, -, a5⟩ := run_append_own_at (P := P) w 0 t ty e i z size bytes ht hi hz0 hz1 hz2 hzs hsz v n xs ho ⟨g, 0, none⟩ 1 1 C (by rw [Nat.one_mul]; exact hC) hnews h1 (by unfold maxLen; omega) hb (Nat.zero_le _)
    exact ⟨v', w', a1, .inl a2, by rw [hov]; exact a3, by rw [hov, full a2]; exact a5⟩
  have zero : ∀ q, v = .slice q 0 0 → n = 0 → xs = [] → ∃ v' w', (Builtin.append_ #[t, t] ty #[v, .slice (some ⟨g, 0, none⟩) 1 1]).run P w = .ok v' w' ∧ OwnR w' e size v' (n + 1) (xs ++ C) ∧ w.grownBy w' (obk v) ∧ (obk v' = obk v ∨ obk v' = some w.heap.size) := by
    rintro q rfl rfl rfl
    obtain ⟨v', w', a1, a2, a3, a4⟩ := base (.slice none 0 0) ⟨by simp, .inl ⟨rfl, rfl⟩⟩ rfl
    cases q with
    | none => exact ⟨v', w', a1, a2, a3, a4⟩
    | some a =>
      have hl2 : C.length = 1 * i.size := by rw [hz1, Nat.one_mul]; exact hC
      have r1 := run_append_nil (P := P) w t ty e i z ht hi hz0 ⟨g, 0, none⟩ 1 1 C hl2 hnews (by omega) (by omega) (by rw [hz2]; omega)
      have r2 := run_append_grow (P := P) w t ty e i z ht hi hz0 a 0 0 [] (by simp) (fun j v hv => by cases hv) ⟨g, 0, none⟩ 1 1 C hl2 hnews (by omega) (by omega) (by rw [hz2]; exact growslice_fits_wide (by omega) (by have := Nat.mul_le_mul_left ((0 + 1) + (0 + 1) / 4 + 192) hby; omega))
      refine ⟨v', w', ?_, a2, ?_, ?_⟩
      · rw [r2, ← a1, r1]
        simp
      · rw [obk_zero] at a3 ⊢; exact a3
      · rw [obk_zero] at a4 ⊢; exact a4
  rcases hown with ho | ⟨q, e1, e2, e3⟩ | hM
  · rcases ho.2 with ⟨rfl, rfl⟩ | ⟨g', cap, cur, rfl, b1, b2, b3, b4, b5, b6⟩
    · exact base _ ho rfl
    · by_cases hc : cap = 0
      · subst hc
        obtain rfl : n = 0 := by omega
        exact zero _ rfl rfl (List.eq_nil_of_length_eq_zero (by have := ho.1; omega))
      · exact base _ ho (by rw [obk_pos (by omega)]; rfl)
  · exact zero q e1 e2 e3
  · obtain ⟨⟨rfl, rfl⟩, -⟩ := id hM
    exact runM_src w t t ty z bytes ht hinf hzs hby v n xs hM _ 1 C (Src.ofSlice w ht ⟨g, 0, none⟩ 1 1 C (by rw [hC]) hnews h1) (by decide) h40
theorem stepR_app {P : Program} {w : World} {ops : Array Oper} {o : Oper} {a : Act} {K : Act → World → Prop} {Q : Exit → Act → World → Prop} {E : Prop} (t e : TypeId) (z : Value) (size bytes : Nat) (ht : P.underlying t = some (.slice e)) (hinf : (P.info? e).map (fun i => (i.zero, i.size, i.bytes)) = some (some z, size, bytes)) (hzs : z.cells.size = size) (hsz : 0 < size) (hby : bytes ≤ 100)
    (hgd : o.guard = none) (s x : Operand) (ho : o.op = .call { callee := .builtin .append, args := #[s, x], argTypes := #[t, t] })
    (v : Value) (n : Nat) (xs : List Value) (hs : a.eval s = v) (hown : OwnR w e size v n xs) (g : Nat) (C : List Value) (hC : C.length = size) (h1 : ∀ u ∈ C, u.oneCell' = true) (hx : a.eval x = .slice (some ⟨g, 0, none⟩) 1 1) (hr : w.rangeAt g 0 C) (h40 : n + 1 ≤ 1000000000)
    (h : ∀ v' w', Hid (OwnR w' e size v' (n + 1) (xs ++ C)) → Hid (w.grownBy w' (obk v) ∧ (obk v' = obk v ∨ obk v' = some w.heap.size)) → K (a.put o.dst v') w') : if Region.wanted o (yielded ops a.tmps) = true then Oper.wp P o a w K Q else E := by
  have hw : Region.wanted o (yielded ops a.tmps) = true := by simp [Region.wanted, hgd]
  rw [if_pos hw]
  obtain ⟨v', w', hr, h2, h3⟩ := runR_app (P := P) w t o.type e z size bytes ht hinf hzs hsz hby v n xs hown g C hC h1 hr h40
  unfold Oper.wp execOp
  simp only [ho, resolve, invoke, builtin, Sem.run_bind, Sem.run_pure, Result.andThen_ok, List.map_toArray, List.map_cons, List.map_nil, hs, hx, hr]
  exact h v' w' h2 h3
end Go.Proofs.YtahdkffijlfmnaaGreatDoor

namespace Go.Proofs.YtahdkffijlfmnaaGreatDoor
open Go.RowKit
open Hp (V vc vcs)
theorem own_set1 {w : World} {B : Nat} {e : TypeId} {sz g n cap : Nat} {xs : List Value} (h : w.ownsRow B e sz (.slice (some ⟨g, 0, none⟩) n cap) n xs) (j : Nat) (hj : j < n * sz) (v : Value) : (w.setCell ⟨g, j, none⟩ v).ownsRow B e sz (.slice (some ⟨g, 0, none⟩) n cap) n (xs.set j v) := by
  have hx : xs.length = n * sz := h.1
  refine own_sets h j [v] (xs.set j v) (by rw [List.length_set]; exact hx) fun i hi => ?_
  have e0 : w.setCells g j [v] = w.setCell ⟨g, j, none⟩ v := rfl
  rw [e0]
  by_cases e : i = j
  · subst e
    rw [World.cell?_setCell_same' _ _ _ (by rw [h.cellAt i hi, List.getElem?_eq_getElem (by omega)]; rfl), List.getElem?_set_self (by omega)]
  · rw [World.cell?_setCell_other _ _ _ _ (fun q => e (by have := congrArg Addr.off q; simp at this; omega)), h.cellAt i hi, List.getElem?_set_ne (Ne.symm e)]
theorem rown_set1 {w : World} {e : TypeId} {sz g n cap : Nat} {xs : List Value} (h : OwnR w e sz (.slice (some ⟨g, 0, none⟩) n cap) n xs) (j : Nat) (hj : j < n * sz) (v : Value) (he : e ≠ 5 := by decide) : OwnR (w.setCell ⟨g, j, none⟩ v) e sz (.slice (some ⟨g, 0, none⟩) n cap) n (xs.set j v) := by
  have hn : 0 < n := by rcases Nat.eq_zero_or_pos n with rfl | h <;> omega
  obtain ⟨q, c, e1, hc, -⟩ := rown_slice h
  cases e1
  exact .inl (own_set1 (rown_own h (by omega) he) j hj v)
structure Pu (w w' : World) (fb j : Nat) (sv sv' : Value) : Prop where
  fbk : w'.heap[fb]? = (w.setCell ⟨fb, j, none⟩ sv').heap[fb]?
  kp : Kp (fun x => x = fb ∨ (obk sv) = some x) w w'
theorem Pu.next {w w' w2 : World} {fb j : Nat} {sv sv' : Value} (h : Pu w w' fb j sv sv') (hl : fb < w.heap.size) (k : Below w'.heap.size w' w2) : Pu w w2 fb j sv sv' := ⟨(k.block fb (Nat.lt_of_lt_of_le hl h.kp.size)).trans h.fbk, h.kp.next k⟩
theorem vc_one (v : V) : ∀ u ∈ vc v, u.oneCell' = true := fun u hu => by
  unfold vc at hu
  simp only [List.mem_cons, List.not_mem_nil, or_false] at hu
  rcases hu with rfl | rfl | rfl <;> rfl
def PushR (w w' : World) (fb fo n : Nat) (sv : Value) (xs : List Value) (v : V) (z : Ending) : Prop :=
  if n = 400 then z = .returned (.int .i64 7) ∧ Below w.heap.size w w' else
    z = .returned (.int .i64 0) ∧ ∃ sv', Pu w w' fb (fo + 3) sv sv' ∧ OwnR w' 52 3 sv' (n + 1) (xs ++ vc v) ∧ ∀ g, (obk sv') = some g → (obk sv) = some g ∨ w.heap.size ≤ g
set_option maxRecDepth 100000 in
set_option maxHeartbeats 2000000 in
theorem push_any {w : World} {fb fo n : Nat} {sv : Value} {xs : List Value} (hc : w.cell? ⟨fb, fo + 3, none⟩ = some sv) (hf : w.frozen? ⟨fb, fo + 3, none⟩ = false) (ho : OwnR w 52 3 sv n xs) (hne : (obk sv) ≠ some fb) (hn : n ≤ 400) (v : V) :
    Calls Tryz.prog 107 #[.pointer (some ⟨fb, fo, none⟩), .agg #[.int .i64 v.1, .int .i64 v.2.1, .string v.2.2]] w fun z w' => Hid (PushR w w' fb fo n sv xs v z) := by
  obtain ⟨k, m, s⟩ := v
  have hfl : fb < w.heap.size := block_lt_of_cell hc
  obtain ⟨q, cap, rfl, -, -⟩ := rown_slice ho
  obtain ⟨X, hX⟩ : ∃ X, w.alloc (.cells #[.int .i64 k, .int .i64 m, .string s] 52) = X := ⟨_, rfl⟩
  have bX : Below w.heap.size w X := by rw [← hX]; exact (Below.refl _ w).alloc (Nat.le_refl _) _
  have fX : Full X w.heap.size 52 [.int .i64 k, .int .i64 m, .string s] := by rw [← hX]; exact Full.new w _ _
  have c3 := (bX.cell (p := ⟨fb, fo + 3, none⟩) hfl).trans hc
  have f3 := (bX.frozen (p := ⟨fb, fo + 3, none⟩) hfl).trans hf
  have x0 := (fX.cell 0 _ rfl).1
  have x1 := (fX.cell 1 _ rfl).1
  have x2 := (fX.cell 2 _ rfl).1
  by_cases h4 : n = 400
  · have HE : Hid (PushR w X fb fo n (.slice q n cap) xs (k, m, s) (.returned (.int .i64 7))) := by show PushR _ _ _ _ _ _ _ _ _; unfold PushR; rw [if_pos h4]; exact ⟨rfl, bX⟩
    have e4 : ((n : Int) == 400) = true := by rw [h4]; rfl
    have e5 : (n : Int) = 400 := by omega
    clear h4 ho
    go_enter Tryz.func107, Tryz.ntmps107
    go_wp2
    go_ret
    exact HE
  · have e4 : ((n : Int) == 400) = false := by rw [beq_eq_false_iff_ne]; omega
    have e5 : ¬ ((n : Int) = 400) := by omega
    have oX := rown_next ho bX
    obtain ⟨Y, hY⟩ : ∃ Y, X.alloc (.cells #[.int .i64 k, .int .i64 m, .string s] 52) = Y := ⟨_, rfl⟩
    have bY : Below X.heap.size X Y.drew := by rw [← hY]; exact ((Below.refl _ X).alloc (Nat.le_refl _) _).drew
    have bY0 : Below X.heap.size X Y := by rw [← hY]; exact (Below.refl _ X).alloc (Nat.le_refl _) _
    have c3Y := (bY0.cell (p := ⟨fb, fo + 3, none⟩) (block_lt_of_cell c3)).trans c3
    have f3Y := (bY0.frozen (p := ⟨fb, fo + 3, none⟩) (block_lt_of_cell c3)).trans f3
    have HOW : Hid (OwnR Y.drew 52 3 (.slice q n cap) n xs ∧ Y.drew.rangeAt X.heap.size 0 [.int .i64 k, .int .i64 m, .string s]) := ⟨rown_next oX bY, fun j u hu => by
      have fY : Full Y X.heap.size 52 [.int .i64 k, .int .i64 m, .string s] := by rw [← hY]; exact Full.new X _ _
      rw [Nat.zero_add]
      exact ((fY.next (Below.refl _ Y).drew).cell j u hu).1⟩
    have HO : Hid (∀ u ∈ ([.int .i64 k, .int .i64 m, .string s] : List Value), u.oneCell' = true) := vc_one (k, m, s)
    have bwy : Below w.heap.size w Y.drew := below2 bX bY
    have HFIN : Hid (∀ v5 w5, Hid (OwnR w5 52 3 v5 (n + 1) (xs ++ [.int .i64 k, .int .i64 m, .string s])) → Hid (Y.drew.grownBy w5 (obk (Value.slice q n cap)) ∧ ((obk v5) = (obk (Value.slice q n cap)) ∨ (obk v5) = some Y.drew.heap.size)) →
        (w5.cell? ⟨fb, fo + 3, none⟩ = some (.slice q n cap) ∧ w5.frozen? ⟨fb, fo + 3, none⟩ = false) ∧ Hid (PushR w (w5.setCell ⟨fb, fo + 3, none⟩ v5) fb fo n (.slice q n cap) xs (k, m, s) (.returned (.int .i64 0)))) := fun v5 w5 ho5 hg5 => by
      have kp5 : Kp (fun x => x = fb ∨ (obk (Value.slice q n cap)) = some x) w w5 := (Kp.of bwy).grown hg5.out.1 fun x hx => .inl (.inr hx)
      have hfb : w5.heap[fb]? = w.heap[fb]? := (hg5.out.1.block fb (Nat.lt_of_lt_of_le hfl bwy.size) (fun e => hne e.symm)).trans (bwy.block fb hfl)
      have hv5 : ∀ g, (obk v5) = some g → (obk (Value.slice q n cap)) = some g ∨ w.heap.size ≤ g := fun g hg => by
        rcases hg5.out.2 with r | r
        · exact .inl (r ▸ hg)
        · rw [r] at hg; cases hg; exact .inr bwy.size
      refine ⟨⟨(World.cell?_of_block (w := w) (a := ⟨fb, fo + 3, none⟩) hfb).trans hc, ?_⟩, ?_⟩
      · have : w5.frozen? ⟨fb, fo + 3, none⟩ = w.frozen? ⟨fb, fo + 3, none⟩ := by unfold World.frozen?; rw [show w5.heap[(⟨fb, fo + 3, none⟩ : Addr).block]? = w.heap[(⟨fb, fo + 3, none⟩ : Addr).block]? from hfb]
        rw [this]; exact hf
      · show PushR _ _ _ _ _ _ _ _ _
        unfold PushR
        rw [if_neg h4]
        refine ⟨rfl, v5, ⟨?_, kp5.setCell (p := ⟨fb, fo + 3, none⟩) (.inl (.inl rfl)) _⟩, rown_same ho5.out fun g hg => set_heap (a := ⟨fb, fo + 3, none⟩) fun e => ?_, hv5⟩
        · simp only [World.setCell, Array.getElem?_modify, hfb]
        · have e : g = fb := e
          rcases hv5 g hg with r | r
          · exact hne (e ▸ r)
          · omega
    clear ho oX bX bY bY0 bwy fX h4
    go_enter Tryz.func107, Tryz.ntmps107
    go_upto_region 3 with fail
    go_region_law (first
      | (refine stepR_app 64 52 _ 3 32 Tryz.underlying64 Hp.info37 (by rfl) (by decide) (by decide) (by rfl) _ _ (by rfl) _ n xs (by rfl) HOW.out.1 X.heap.size [.int .i64 k, .int .i64 m, .string s] (by rfl) HO.out (by rfl) HOW.out.2 (by omega) ?_; intro v5 w5 ho5 hg5; obtain ⟨q5, c5, rfl, -, -⟩ := rown_slice ho5.out; obtain ⟨⟨d3, e3⟩, HTW⟩ := HFIN.out _ w5 ho5 hg5))
    all_goals
      clear HFIN HOW ho5 hg5 c3 f3 c3Y f3Y x0 x1 x2 d3 e3
      go_wp2
      go_ret
      exact HTW
end Go.Proofs.YtahdkffijlfmnaaGreatDoor

namespace Go.Proofs.YtahdkffijlfmnaaGreatDoor
open Go.RowKit
open Hp (V vc vcs)
theorem cutV (a : Addr) (n cap k : Nat) (hk : k ≤ cap) : ∀ w : World, (Instr.slice 64 (.slice (some a) n cap) none (some (.int .i64 (k : Int))) none).run Tryz.prog w = .ok (.slice (some a) k cap) w := fun w => by
  simp [go_sem, Instr.slice, run_underlying Tryz.underlying64, hk]
theorem own_len {w : World} {n : Nat} {v : Value} {xs : List V} (h : OwnR w 52 3 v n (vcs xs)) : xs.length = n := by
  have := rown_len h
  rw [Hp.vcs_len] at this
  omega
theorem vcs_at {w : World} {gs n cap m : Nat} {xs : List V} (h : OwnR w 52 3 (.slice (some ⟨gs, 0, none⟩) n cap) n (vcs xs)) (hm : m < xs.length) (hl : xs.length = n) : w.rangeAt gs (m * 3) (vc xs[m]) := fun j v hv => by
  have hj : j < 3 := (List.getElem?_eq_some_iff.1 hv).1
  rw [rown_cell h (m * 3 + j) (by omega)]
  exact (Hp.flat_at vc 3 (fun _ => rfl) xs m j hm hj).trans hv
theorem own_takeG {w : World} {e : TypeId} {sz n k : Nat} {g cap : Nat} {xs : List Value} (h : OwnR w e sz (.slice (some ⟨g, 0, none⟩) n cap) n xs) (hk : k ≤ n) : OwnR w e sz (.slice (some ⟨g, 0, none⟩) k cap) k (xs.take (k * sz)) := by
  have hl : xs.length = n * sz := rown_len h
  have hm : k * sz ≤ n * sz := Nat.mul_le_mul_right sz hk
  rcases h with h | ⟨q, e1, rfl, rfl⟩ | ⟨⟨rfl, rfl⟩, hl2, g', cap', cur, fz, hv, h1, h2, h3, h4, h5, h6⟩
  · rcases h.2 with ⟨q, -⟩ | ⟨g', cap', cur, hv, h1, h2, h3, h4, h5, h6⟩
    · cases q
    · cases hv
      refine .inl ⟨by rw [List.length_take]; omega, .inr ⟨g, cap, cur, rfl, h1, h2, by omega, h4, h5, ?_⟩⟩
      rw [← h6, List.take_take]
      congr 1
      omega
  · cases e1
    obtain rfl : k = 0 := by omega
    exact .inr (.inl ⟨_, rfl, rfl, by simp⟩)
  · cases hv
    refine .inr (.inr ⟨⟨rfl, rfl⟩, by rw [List.length_take]; omega, g, cap, cur, fz, rfl, h1, h2, by omega, h4, h5, ?_⟩)
    rw [← h6, List.take_take]
    congr 1
    omega
theorem own_take {w : World} {n k : Nat} {g cap : Nat} {xs : List V} (h : OwnR w 52 3 (.slice (some ⟨g, 0, none⟩) n cap) n (vcs xs)) (hk : k ≤ n) : OwnR w 52 3 (.slice (some ⟨g, 0, none⟩) k cap) k (vcs (xs.take k)) := by
  have hl := own_len h
  have h1 := own_takeG h hk
  have e2 : vcs xs = vcs (xs.take k) ++ vcs (xs.drop k) := by rw [← Hp.vcs_app, List.take_append_drop]
  rw [e2, List.take_left' (by rw [Hp.vcs_len, List.length_take]; omega)] at h1
  exact h1
theorem ret_pop {w : World} {B : Nat} {a b c : Value} {tm : Array Value} (c0 : w.cell? ⟨B, 0, none⟩ = some a) (c1 : w.cell? ⟨B, 1, none⟩ = some b) (c2 : w.cell? ⟨B, 2, none⟩ = some c) (h2 : tm[2]?.getD undef = .pointer (some ⟨B, 0, none⟩)) :
    (results Tryz.f109 tm).run Tryz.prog w = .ok (.agg #[a, b, c]) w := by
  simp [results, Tryz.results109, go_sem, h2, c0, c1, c2]
set_option maxRecDepth 100000 in
set_option maxHeartbeats 2000000 in
theorem pop_any {w : World} {fb fo n cap gs : Nat} {v : V} (hc : w.cell? ⟨fb, fo + 3, none⟩ = some (.slice (some ⟨gs, 0, none⟩) (n + 1) cap)) (hf : w.frozen? ⟨fb, fo + 3, none⟩ = false) (hv : w.rangeAt gs (n * 3) (vc v)) (hn : n + 1 ≤ 400) (hcap : n + 1 ≤ cap) :
    Calls Tryz.prog 109 #[.pointer (some ⟨fb, fo, none⟩)] w fun z w' => z = .returned (.agg #[.int .i64 v.1, .int .i64 v.2.1, .string v.2.2]) ∧ Hid (Pu w w' fb (fo + 3) (.slice none 0 0) (.slice (some ⟨gs, 0, none⟩) n cap)) := by
  obtain ⟨k, m, s⟩ := v
  have hfl : fb < w.heap.size := block_lt_of_cell hc
  obtain ⟨n1, Hn1⟩ : ∃ n1, Hid (n + 1 = n1) := ⟨_, (rfl : n + 1 = _)⟩
  rw [Hn1.out] at hc hn hcap
  have hw1 : IntKind.i64.wrap ((n1 : Int) - 1) = (n : Int) := by have := Hn1.out; rw [IntKind.wrap_i64]; omega
  have i0 : (0 : Int) ≤ (n : Int) := by omega
  have i1 : (n : Int) < (n1 : Int) := by have := Hn1.out; omega
  have v0 := hv 0 _ rfl
  have v1 := hv 1 _ rfl
  have v2 := hv 2 _ rfl
  rw [Nat.add_zero] at v0
  obtain ⟨X, hX⟩ : ∃ X, w.alloc (.cells #[.int .i64 0, .int .i64 0, .string Hp.e0] 52) = X := ⟨_, rfl⟩
  have bX : Below w.heap.size w X := by rw [← hX]; exact (Below.refl _ w).alloc (Nat.le_refl _) _
  have fX : Full X w.heap.size 52 [.int .i64 0, .int .i64 0, .string Hp.e0] := by rw [← hX]; exact Full.new w _ _
  obtain ⟨Y, hY⟩ : ∃ Y, X.alloc (.cells #[.int .i64 k, .int .i64 m, .string s] 52) = Y := ⟨_, rfl⟩
  have bY : Below X.heap.size X Y := by rw [← hY]; exact (Below.refl _ X).alloc (Nat.le_refl _) _
  have fY : Full Y X.heap.size 52 [.int .i64 k, .int .i64 m, .string s] := by rw [← hY]; exact Full.new X _ _
  have zX : X.heap.size = w.heap.size + 1 := by rw [← hX]; simp
  have cX := (bX.cell (p := ⟨fb, fo + 3, none⟩) hfl).trans hc
  have u0 := (bX.cell (p := ⟨gs, n * 3, none⟩) (block_lt_of_cell v0)).trans v0
  have u1 := (bX.cell (p := ⟨gs, n * 3 + 1, none⟩) (block_lt_of_cell v1)).trans v1
  have u2 := (bX.cell (p := ⟨gs, n * 3 + 2, none⟩) (block_lt_of_cell v2)).trans v2
  have cY := (bY.cell (p := ⟨fb, fo + 3, none⟩) (block_lt_of_cell cX)).trans cX
  have fYf := ((below2 bX bY).frozen (p := ⟨fb, fo + 3, none⟩) hfl).trans hf
  have sl := cutV ⟨gs, 0, none⟩ n1 cap n (by have := Hn1.out; omega)
  obtain ⟨Z, hZ⟩ : ∃ Z, Y.setCell ⟨fb, fo + 3, none⟩ (.slice (some ⟨gs, 0, none⟩) n cap) = Z := ⟨_, rfl⟩
  have ne1 : w.heap.size ≠ fb := by omega
  have ne2 : X.heap.size ≠ fb := by omega
  have fXZ : Full Z w.heap.size 52 [.int .i64 0, .int .i64 0, .string Hp.e0] := by rw [← hZ]; exact (fX.next bY).other1 ne1
  have fYZ : Full Z X.heap.size 52 [.int .i64 k, .int .i64 m, .string s] := by rw [← hZ]; exact fY.other1 ne2
  have y0 := (fYZ.cell 0 _ rfl).1
  have y1 := (fYZ.cell 1 _ rfl).1
  have y2 := (fYZ.cell 2 _ rfl).1
  obtain ⟨z0, g0⟩ := fXZ.cell 0 _ rfl
  obtain ⟨z1, g1⟩ := fXZ.cell 1 _ rfl
  obtain ⟨z2, g2⟩ := fXZ.cell 2 _ rfl
  have fE : Full (((Z.setCell ⟨w.heap.size, 0, none⟩ (.int .i64 k)).setCell ⟨w.heap.size, 1, none⟩ (.int .i64 m)).setCell ⟨w.heap.size, 2, none⟩ (.string s)) w.heap.size 52 [.int .i64 k, .int .i64 m, .string s] := Full.put (g := w.heap.size) (t := 52) [.int .i64 k, .int .i64 m, .string s] (a := []) (b := [.int .i64 0, .int .i64 0, .string Hp.e0]) (d := []) fXZ rfl
  have e0 := (fE.cell 0 _ rfl).1
  have e1 := (fE.cell 1 _ rfl).1
  have e2 := (fE.cell 2 _ rfl).1
  have HE : Hid (Pu w (((Z.setCell ⟨w.heap.size, 0, none⟩ (.int .i64 k)).setCell ⟨w.heap.size, 1, none⟩ (.int .i64 m)).setCell ⟨w.heap.size, 2, none⟩ (.string s)) fb (fo + 3) (.slice none 0 0) (.slice (some ⟨gs, 0, none⟩) n cap)) := by
    have kp : Kp (fun x => x = fb ∨ (obk (Value.slice none 0 0)) = some x) w Z := by rw [← hZ]; exact (Kp.of (below2 bX bY)).setCell (p := ⟨fb, fo + 3, none⟩) (.inl (.inl rfl)) _
    refine ⟨?_, ((kp.setCell (p := ⟨w.heap.size, 0, none⟩) (.inr (Nat.le_refl _)) _).setCell (p := ⟨w.heap.size, 1, none⟩) (.inr (Nat.le_refl _)) _).setCell (p := ⟨w.heap.size, 2, none⟩) (.inr (Nat.le_refl _)) _⟩
    rw [set_heap (a := ⟨w.heap.size, 2, none⟩) (Ne.symm ne1), set_heap (a := ⟨w.heap.size, 1, none⟩) (Ne.symm ne1), set_heap (a := ⟨w.heap.size, 0, none⟩) (Ne.symm ne1), ← hZ]
    simp only [World.setCell, Array.getElem?_modify, (below2 bX bY).block fb hfl]
  clear hv fX fY fXZ fYZ fE bX bY zX
  go_enter Tryz.func109, Tryz.ntmps109
  go_wp2
  exact bodyPost_ret (ret_pop e0 e1 e2 rfl) rfl ⟨rfl, HE⟩
end Go.Proofs.YtahdkffijlfmnaaGreatDoor

namespace Go.Proofs.YtahdkffijlfmnaaGreatDoor
open Go.RowKit
open Hp (V vc vcs)
structure Fr where
  fn : Int
  pc : Int
  sl : List V
  st : List V
structure Ms where
  fs : List Fr
  hp : Hp.Hp
  rd : Nat
  out : List UInt8
  steps : Int
  ph : Int
  tr : Int
structure Cg where
  c : Cd
  iq : Option Addr
  ia : Nat
  eq : Option Addr
  ea : Nat
  tq : Option Addr
  ta : Nat
  Es : List Em
  inp : List Int
  nq : Option Addr
  na : Nat
  dep : Int
  lim : Nat
structure Fm where
  f : Fr
  sv : Value
  tv : Value
def fmc (m : Fm) : List Value := [.int .i64 m.f.fn, .int .i64 m.f.pc, m.sv, m.tv]
def RowQ (w : World) (Q : Nat → Prop) (q : Option Addr) (n : Nat) (xs : List Value) : Prop := 0 < n → ∃ g o, q = some ⟨g, o, none⟩ ∧ Q g ∧ w.rangeAt g o xs
theorem RowQ.same {w w' : World} {Q : Nat → Prop} {q : Option Addr} {n : Nat} {xs : List Value} (h : RowQ w Q q n xs) (hk : ∀ b, Q b → w'.heap[b]? = w.heap[b]?) : RowQ w' Q q n xs := fun hn => by
  obtain ⟨g, o, h1, h2, h3⟩ := h hn
  exact ⟨g, o, h1, h2, range_same h3 (hk g h2)⟩
structure CodeQ (w : World) (Q : Nat → Prop) (K : Cg) : Prop where
  en : K.Es.map (·.1) = K.c.ens
  ir : RowQ w Q K.iq K.c.ins.length (K.c.ins.flatMap ic)
  er : RowQ w Q K.eq K.c.ens.length (K.Es.flatMap ec)
  tr : RowQ w Q K.tq K.c.txs.length (tv K.c.txs)
  sr : ∀ x ∈ K.Es, RowQ w Q x.2.1 x.1.sorts.length (sv x.1.sorts)
  nr : RowQ w Q K.nq K.inp.length (sv K.inp)
  lt : ∀ b, Q b → b < w.heap.size
theorem CodeQ.same {w w' : World} {Q : Nat → Prop} {K : Cg} (h : CodeQ w Q K) (hk : ∀ b, Q b → w'.heap[b]? = w.heap[b]?) (hs : w.heap.size ≤ w'.heap.size) : CodeQ w' Q K :=
  ⟨h.en, h.ir.same hk, h.er.same hk, h.tr.same hk, fun x hx => (h.sr x hx).same hk, h.nr.same hk, fun b hb => Nat.lt_of_lt_of_le (h.lt b hb) hs⟩
theorem CodeQ.len {w : World} {Q : Nat → Prop} {K : Cg} (h : CodeQ w Q K) : K.Es.length = K.c.ens.length := by rw [← h.en, List.length_map]
theorem CodeQ.ent {w : World} {Q : Nat → Prop} {K : Cg} (h : CodeQ w Q K) (i : Nat) (hi : i < K.Es.length) : ∃ g o, K.eq = some ⟨g, o, none⟩ ∧ Q g ∧ w.cell? ⟨g, o + i * 5, none⟩ = some (.string K.Es[i].1.name) ∧ w.cell? ⟨g, o + i * 5 + 1, none⟩ = some (.int .i64 K.Es[i].1.start) ∧ w.cell? ⟨g, o + i * 5 + 2, none⟩ = some (.int .i64 K.Es[i].1.params) ∧ w.cell? ⟨g, o + i * 5 + 3, none⟩ = some (.slice K.Es[i].2.1 K.Es[i].1.sorts.length K.Es[i].2.2) ∧ w.cell? ⟨g, o + i * 5 + 4, none⟩ = some (.int .i64 K.Es[i].1.result) := by
  obtain ⟨g, o, h1, h2, h3⟩ := h.er (by rw [← h.len]; omega)
  have k := fun j (hj : j < 5) v hv => h3 (i * 5 + j) v ((flat_at ec 5 (fun _ => rfl) K.Es i j hi hj).trans hv)
  refine ⟨g, o, h1, h2, ?_, ?_, ?_, ?_, ?_⟩
  · exact k 0 (by decide) _ rfl
  · have := k 1 (by decide) _ rfl; rwa [← Nat.add_assoc] at this
  · have := k 2 (by decide) _ rfl; rwa [← Nat.add_assoc] at this
  · have := k 3 (by decide) _ rfl; rwa [← Nat.add_assoc] at this
  · have := k 4 (by decide) _ rfl; rwa [← Nat.add_assoc] at this
theorem CodeQ.ins {w : World} {Q : Nat → Prop} {K : Cg} (h : CodeQ w Q K) (i : Nat) (hi : i < K.c.ins.length) : ∃ g o, K.iq = some ⟨g, o, none⟩ ∧ Q g ∧ w.cell? ⟨g, o + i * 3, none⟩ = some (.int .i64 K.c.ins[i].1) ∧ w.cell? ⟨g, o + i * 3 + 1, none⟩ = some (.int .i64 K.c.ins[i].2.1) ∧ w.cell? ⟨g, o + i * 3 + 2, none⟩ = some (.int .i64 K.c.ins[i].2.2) := by
  obtain ⟨g, o, h1, h2, h3⟩ := h.ir (by omega)
  have k := fun j (hj : j < 3) v hv => h3 (i * 3 + j) v ((flat_at ic 3 (fun _ => rfl) K.c.ins i j hi hj).trans hv)
  refine ⟨g, o, h1, h2, ?_, ?_, ?_⟩
  · exact k 0 (by decide) _ rfl
  · have := k 1 (by decide) _ rfl; rwa [← Nat.add_assoc] at this
  · have := k 2 (by decide) _ rfl; rwa [← Nat.add_assoc] at this
def msc (K : Cg) (S : Ms) (fv ov : Value) : List (Nat × Value) :=
  [(0, .slice K.iq K.c.ins.length K.ia), (1, .slice K.eq K.c.ens.length K.ea), (2, .slice K.tq K.c.txs.length K.ta), (3, .int .i64 K.c.main), (4, .slice K.nq K.inp.length K.na), (5, .int .i64 K.dep), (6, .int .i64 (K.lim : Int)), (7, fv),
   (12, .int .i64 (S.rd : Int)), (13, ov), (14, .int .i64 S.steps), (15, .int .i64 S.ph), (16, .int .i64 S.tr)]
def mhp (g : Nat) (K : Cg) (S : Ms) (fv ov : Value) : Hp.Hpt := ⟨g, 8, 82, 17, msc K S fv ov⟩
structure MachM (w : World) (g : Nat) (K : Cg) (S : Ms) (L : List Fm) (fv ov : Value) (F Q : Nat → Prop) : Prop where
  code : CodeQ w Q K
  heap : Hp.HeapOf w (mhp g K S fv ov) K.lim S.hp F
  fr : OwnR w 89 4 fv L.length (L.flatMap fmc)
  abs : L.map (·.f) = S.fs
  rows : ∀ m ∈ L, OwnR w 52 3 m.sv m.f.sl.length (vcs m.f.sl) ∧ OwnR w 52 3 m.tv m.f.st.length (vcs m.f.st)
  out : OwnR w 5 1 ov S.out.length (Hp.bv S.out)
  sep : ∀ (i j : Nat) (x y : Fm), L[i]? = some x → L[j]? = some y → (∀ b, (obk x.sv) = some b → (obk y.tv) ≠ some b) ∧ (i ≠ j → (∀ b, (obk x.sv) = some b → (obk y.sv) ≠ some b) ∧ ∀ b, (obk x.tv) = some b → (obk y.tv) ≠ some b)
  nf : ∀ m ∈ L, ∀ b, (obk m.sv) = some b ∨ (obk m.tv) = some b → ¬ F b
  nv : ∀ b, (obk fv) = some b ∨ (obk ov) = some b → ¬ F b
  nq : ∀ b, Q b → ¬ F b ∧ (obk fv) ≠ some b ∧ (obk ov) ≠ some b ∧ ∀ m ∈ L, (obk m.sv) ≠ some b ∧ (obk m.tv) ≠ some b
def foot (L : List Fm) (fv ov : Value) (F : Nat → Prop) : Nat → Prop := fun b => F b ∨ (obk fv) = some b ∨ (obk ov) = some b ∨ ∃ m ∈ L, (obk m.sv) = some b ∨ (obk m.tv) = some b
theorem MachM.same {w w' : World} {g : Nat} {K : Cg} {S : Ms} {L : List Fm} {fv ov : Value} {F Q : Nat → Prop} (h : MachM w g K S L fv ov F Q) (hk : ∀ b, foot L fv ov F b ∨ Q b → w'.heap[b]? = w.heap[b]?) (hs : w.heap.size ≤ w'.heap.size) : MachM w' g K S L fv ov F Q where
  code := h.code.same (fun b hb => hk b (.inr hb)) hs
  heap := h.heap.same (fun b hb => hk b (.inl (.inl hb))) hs
  fr := rown_same h.fr fun b hb => hk b (.inl (.inr (.inl hb)))
  abs := h.abs
  rows m hm := ⟨rown_same (h.rows m hm).1 fun b hb => hk b (.inl (.inr (.inr (.inr ⟨m, hm, .inl hb⟩)))), rown_same (h.rows m hm).2 fun b hb => hk b (.inl (.inr (.inr (.inr ⟨m, hm, .inr hb⟩))))⟩
  out := rown_same h.out fun b hb => hk b (.inl (.inr (.inr (.inl hb))))
  sep := h.sep
  nf := h.nf
  nv := h.nv
  nq := h.nq
theorem MachM.lt {w : World} {g : Nat} {K : Cg} {S : Ms} {L : List Fm} {fv ov : Value} {F Q : Nat → Prop} (h : MachM w g K S L fv ov F Q) : ∀ b, foot L fv ov F b ∨ Q b → b < w.heap.size := fun b hb => by
  rcases hb with (hb | hb | hb | ⟨m, hm, hb | hb⟩) | hb
  · exact h.heap.flt b hb
  · exact (rown_blk h.fr b hb).lt
  · exact (rown_bk h.out b hb).lt
  · exact (rown_blk (h.rows m hm).1 b hb).lt
  · exact (rown_blk (h.rows m hm).2 b hb).lt
  · exact h.code.lt b hb
theorem MachM.next {w w' : World} {g : Nat} {K : Cg} {S : Ms} {L : List Fm} {fv ov : Value} {F Q : Nat → Prop} (h : MachM w g K S L fv ov F Q) (k : Below w.heap.size w w') : MachM w' g K S L fv ov F Q := h.same (fun b hb => k.block b (h.lt b hb)) k.size
theorem MachM.kept {w w' : World} {g : Nat} {K : Cg} {S : Ms} {L : List Fm} {fv ov : Value} {F Q G : Nat → Prop} (h : MachM w g K S L fv ov F Q) (k : Kp G w w') (hd : ∀ b, foot L fv ov F b ∨ Q b → ¬ G b) : MachM w' g K S L fv ov F Q := h.same (fun b hb => k.block b (h.lt b hb) (hd b hb)) k.size
theorem set_get {α : Type} {L : List α} {i j : Nat} {m x : α} (h : (L.set i m)[j]? = some x) : (i = j ∧ x = m) ∨ (i ≠ j ∧ L[j]? = some x) := by
  rw [List.getElem?_set] at h
  split at h
  · split at h
    · cases h; exact .inl ⟨by assumption, rfl⟩
    · cases h
  · exact .inr ⟨by assumption, h⟩
theorem MachM.frame {w w' : World} {g : Nat} {K : Cg} {S : Ms} {L : List Fm} {fv ov : Value} {F Q : Nat → Prop} (h : MachM w g K S L fv ov F Q) {i : Nat} {m m' : Fm} (hi : L[i]? = some m)
    (hk : Kp (fun x => (obk fv) = some x ∨ (obk m.sv) = some x ∨ (obk m.tv) = some x) w w')
    (hf : OwnR w' 89 4 fv L.length ((L.set i m').flatMap fmc))
    (hs : OwnR w' 52 3 m'.sv m'.f.sl.length (vcs m'.f.sl)) (ht : OwnR w' 52 3 m'.tv m'.f.st.length (vcs m'.f.st))
    (fs : ∀ b, (obk m'.sv) = some b → (obk m.sv) = some b ∨ w.heap.size ≤ b) (ft : ∀ b, (obk m'.tv) = some b → (obk m.tv) = some b ∨ w.heap.size ≤ b) (fst : ∀ b, (obk m'.sv) = some b → (obk m'.tv) ≠ some b) :
    MachM w' g K { S with fs := S.fs.set i m'.f } (L.set i m') fv ov F Q ∧ ∀ b, foot (L.set i m') fv ov F b → foot L fv ov F b ∨ w.heap.size ≤ b := by
  have hm : m ∈ L := List.mem_of_getElem? hi
  have hlt := h.lt
  have hF : ∀ b, F b → w'.heap[b]? = w.heap[b]? := fun b hb => hk.block b (hlt b (.inl (.inl hb))) fun q => by
    rcases q with q | q | q
    · exact h.nv b (.inl q) hb
    · exact h.nf m hm b (.inl q) hb
    · exact h.nf m hm b (.inr q) hb
  have hQ : ∀ b, Q b → w'.heap[b]? = w.heap[b]? := fun b hb => hk.block b (hlt b (.inr hb)) fun q => by
    obtain ⟨-, n1, -, n3⟩ := h.nq b hb
    rcases q with q | q | q
    · exact n1 q
    · exact (n3 m hm).1 q
    · exact (n3 m hm).2 q
  have tyV : ∀ {b : Nat} {v : Value} {n : Nat} {xs : List Value}, OwnR w 52 3 v n xs → (obk v) = some b → (obk fv) ≠ some b := fun ho hb q => rown_ne ho (rown_blk h.fr _ q) (by decide) hb
  have hmem : ∀ x, x ∈ L.set i m' → x = m' ∨ ∃ j, j ≠ i ∧ L[j]? = some x := fun x hx => by
    obtain ⟨j, hj⟩ := List.mem_iff_getElem?.1 hx
    rcases set_get hj with ⟨-, e⟩ | ⟨e, q⟩
    · exact .inl e
    · exact .inr ⟨j, Ne.symm e, q⟩
  refine ⟨⟨h.code.same hQ hk.size, h.heap.same hF hk.size, by rw [List.length_set]; exact hf, by rw [List.map_set, h.abs], fun x hx => ?_, rown_same h.out fun b hb => hk.block b (hlt b (.inl (.inr (.inr (.inl hb))))) fun q => ?_, fun j k x y hj hy => ?_, fun x hx b hb q => ?_, h.nv, fun b hb => ?_⟩, fun b hb => ?_⟩
  · rcases hmem x hx with rfl | ⟨j, hj, ex⟩
    · exact ⟨hs, ht⟩
    · have hxm := List.mem_of_getElem? ex
      obtain ⟨r1, r2⟩ := h.rows x hxm
      refine ⟨rown_same r1 fun b hb => hk.block b (rown_blk r1 b hb).lt fun q => ?_, rown_same r2 fun b hb => hk.block b (rown_blk r2 b hb).lt fun q => ?_⟩
      · rcases q with q | q | q
        · exact tyV r1 hb q
        · exact ((h.sep j i x m ex hi).2 hj).1 b hb q
        · exact (h.sep j i x m ex hi).1 b hb q
      · rcases q with q | q | q
        · exact tyV r2 hb q
        · exact (h.sep i j m x hi ex).1 b q hb
        · exact ((h.sep j i x m ex hi).2 hj).2 b hb q
  · have hO := rown_bk h.out b hb
    rcases q with q | q | q
    · exact rown_ne h.out (rown_blk h.fr b q) (by decide) hb
    · exact rown_ne h.out (rown_blk (h.rows m hm).1 b q) (by decide) hb
    · exact rown_ne h.out (rown_blk (h.rows m hm).2 b q) (by decide) hb
  · have old : ∀ {k : Nat} {y : Fm}, L[k]? = some y → ∀ b, (obk y.sv) = some b ∨ (obk y.tv) = some b → b < w.heap.size := fun ey b hb => hlt b (.inl (.inr (.inr (.inr ⟨_, List.mem_of_getElem? ey, hb⟩))))
    rcases set_get hj with ⟨ej, rfl⟩ | ⟨ej, ex⟩ <;> rcases set_get hy with ⟨ey, rfl⟩ | ⟨ey, e2⟩
    · exact ⟨fst, fun q => absurd (ej.symm.trans ey) q⟩
    · refine ⟨fun b hb q => ?_, fun _ => ⟨fun b hb q => ?_, fun b hb q => ?_⟩⟩
      · rcases fs b hb with r | r
        · exact (h.sep i k m y hi e2).1 b r q
        · have := old e2 b (.inr q); omega
      · rcases fs b hb with r | r
        · exact ((h.sep i k m y hi e2).2 ey).1 b r q
        · have := old e2 b (.inl q); omega
      · rcases ft b hb with r | r
        · exact ((h.sep i k m y hi e2).2 ey).2 b r q
        · have := old e2 b (.inr q); omega
    · refine ⟨fun b hb q => ?_, fun _ => ⟨fun b hb q => ?_, fun b hb q => ?_⟩⟩
      · rcases ft b q with r | r
        · exact (h.sep j i x m ex hi).1 b hb r
        · have := old ex b (.inl hb); omega
      · rcases fs b q with r | r
        · exact ((h.sep j i x m ex hi).2 (Ne.symm ej)).1 b hb r
        · have := old ex b (.inl hb); omega
      · rcases ft b q with r | r
        · exact ((h.sep j i x m ex hi).2 (Ne.symm ej)).2 b hb r
        · have := old ex b (.inr hb); omega
    · exact h.sep j k x y ex e2
  · rcases hmem x hx with rfl | ⟨j, hj, ex⟩
    · have : (obk m.sv) = some b ∨ (obk m.tv) = some b ∨ w.heap.size ≤ b := by
        rcases hb with hb | hb
        · rcases fs b hb with r | r
          · exact .inl r
          · exact .inr (.inr r)
        · rcases ft b hb with r | r
          · exact .inr (.inl r)
          · exact .inr (.inr r)
      rcases this with r | r | r
      · exact h.nf m hm b (.inl r) q
      · exact h.nf m hm b (.inr r) q
      · have := h.heap.flt b q; omega
    · exact h.nf x (List.mem_of_getElem? ex) b hb q
  · obtain ⟨n0, n1, n2, n3⟩ := h.nq b hb
    refine ⟨n0, n1, n2, fun x hx => ?_⟩
    have hbl := h.code.lt b hb
    rcases hmem x hx with rfl | ⟨j, hj, ex⟩
    · refine ⟨fun q => ?_, fun q => ?_⟩
      · rcases fs b q with r | r
        · exact (n3 m hm).1 r
        · omega
      · rcases ft b q with r | r
        · exact (n3 m hm).2 r
        · omega
    · exact n3 x (List.mem_of_getElem? ex)
  · rcases hb with hb | hb | hb | ⟨x, hx, hb⟩
    · exact .inl (.inl hb)
    · exact .inl (.inr (.inl hb))
    · exact .inl (.inr (.inr (.inl hb)))
    · rcases hmem x hx with rfl | ⟨j, hj, ex⟩
      · rcases hb with hb | hb
        · rcases fs b hb with r | r
          · exact .inl (.inr (.inr (.inr ⟨m, hm, .inl r⟩)))
          · exact .inr r
        · rcases ft b hb with r | r
          · exact .inl (.inr (.inr (.inr ⟨m, hm, .inr r⟩)))
          · exact .inr r
      · exact .inl (.inr (.inr (.inr ⟨x, List.mem_of_getElem? ex, hb⟩)))
end Go.Proofs.YtahdkffijlfmnaaGreatDoor

namespace Go.Proofs.YtahdkffijlfmnaaGreatDoor
open Go.RowKit
open Hp (V vc vcs)
theorem _root_.Go.Proofs.YtahdkffijlfmnaaGreatDoor.Hp.HeapOf.blk {w : World} {p : Hp.Hpt} {lim : Nat} {A : Hp.Hp} {F : Nat → Prop} (h : Hp.HeapOf w p lim A F) : Blk w p.b p.t p.n ∧ F p.b ∧ ∀ x ∈ p.rs, w.cell? ⟨p.b, x.1, none⟩ = some x.2 := by
  obtain ⟨As, rq, rn, rg, ro, av, e, h⟩ := h
  exact ⟨h.blk, h.fp, fun x hx => (h.rs x hx).2⟩
theorem MachM.at_ {w : World} {g : Nat} {K : Cg} {S : Ms} {L : List Fm} {fv ov : Value} {F Q : Nat → Prop} (h : MachM w g K S L fv ov F Q) (j : Nat) (v : Value) (hm : (j, v) ∈ msc K S fv ov) : w.cell? ⟨g, j, none⟩ = some v := h.heap.blk.2.2 (j, v) hm
theorem MachM.un {w : World} {g : Nat} {K : Cg} {S : Ms} {L : List Fm} {fv ov : Value} {F Q : Nat → Prop} (h : MachM w g K S L fv ov F Q) (j : Nat) : w.frozen? ⟨g, j, none⟩ = false := h.heap.blk.1.unfrozen j
theorem MachM.k0 {w : World} {g : Nat} {K : Cg} {S : Ms} {L : List Fm} {fv ov : Value} {F Q : Nat → Prop} (h : MachM w g K S L fv ov F Q) : w.cell? ⟨g, 0, none⟩ = some (.slice K.iq K.c.ins.length K.ia) := h.at_ 0 (.slice K.iq K.c.ins.length K.ia) (by simp [msc])
theorem MachM.k1 {w : World} {g : Nat} {K : Cg} {S : Ms} {L : List Fm} {fv ov : Value} {F Q : Nat → Prop} (h : MachM w g K S L fv ov F Q) : w.cell? ⟨g, 1, none⟩ = some (.slice K.eq K.c.ens.length K.ea) := h.at_ 1 (.slice K.eq K.c.ens.length K.ea) (by simp [msc])
theorem MachM.k2 {w : World} {g : Nat} {K : Cg} {S : Ms} {L : List Fm} {fv ov : Value} {F Q : Nat → Prop} (h : MachM w g K S L fv ov F Q) : w.cell? ⟨g, 2, none⟩ = some (.slice K.tq K.c.txs.length K.ta) := h.at_ 2 (.slice K.tq K.c.txs.length K.ta) (by simp [msc])
theorem MachM.k3 {w : World} {g : Nat} {K : Cg} {S : Ms} {L : List Fm} {fv ov : Value} {F Q : Nat → Prop} (h : MachM w g K S L fv ov F Q) : w.cell? ⟨g, 3, none⟩ = some (.int .i64 K.c.main) := h.at_ 3 (.int .i64 K.c.main) (by simp [msc])
theorem MachM.k4 {w : World} {g : Nat} {K : Cg} {S : Ms} {L : List Fm} {fv ov : Value} {F Q : Nat → Prop} (h : MachM w g K S L fv ov F Q) : w.cell? ⟨g, 4, none⟩ = some (.slice K.nq K.inp.length K.na) := h.at_ 4 (.slice K.nq K.inp.length K.na) (by simp [msc])
theorem MachM.k5 {w : World} {g : Nat} {K : Cg} {S : Ms} {L : List Fm} {fv ov : Value} {F Q : Nat → Prop} (h : MachM w g K S L fv ov F Q) : w.cell? ⟨g, 5, none⟩ = some (.int .i64 K.dep) := h.at_ 5 (.int .i64 K.dep) (by simp [msc])
theorem MachM.k6 {w : World} {g : Nat} {K : Cg} {S : Ms} {L : List Fm} {fv ov : Value} {F Q : Nat → Prop} (h : MachM w g K S L fv ov F Q) : w.cell? ⟨g, 6, none⟩ = some (.int .i64 (K.lim : Int)) := h.at_ 6 (.int .i64 (K.lim : Int)) (by simp [msc])
theorem MachM.k7 {w : World} {g : Nat} {K : Cg} {S : Ms} {L : List Fm} {fv ov : Value} {F Q : Nat → Prop} (h : MachM w g K S L fv ov F Q) : w.cell? ⟨g, 7, none⟩ = some (fv) := h.at_ 7 (fv) (by simp [msc])
theorem MachM.k12 {w : World} {g : Nat} {K : Cg} {S : Ms} {L : List Fm} {fv ov : Value} {F Q : Nat → Prop} (h : MachM w g K S L fv ov F Q) : w.cell? ⟨g, 12, none⟩ = some (.int .i64 (S.rd : Int)) := h.at_ 12 (.int .i64 (S.rd : Int)) (by simp [msc])
theorem MachM.k13 {w : World} {g : Nat} {K : Cg} {S : Ms} {L : List Fm} {fv ov : Value} {F Q : Nat → Prop} (h : MachM w g K S L fv ov F Q) : w.cell? ⟨g, 13, none⟩ = some (ov) := h.at_ 13 (ov) (by simp [msc])
theorem MachM.k14 {w : World} {g : Nat} {K : Cg} {S : Ms} {L : List Fm} {fv ov : Value} {F Q : Nat → Prop} (h : MachM w g K S L fv ov F Q) : w.cell? ⟨g, 14, none⟩ = some (.int .i64 S.steps) := h.at_ 14 (.int .i64 S.steps) (by simp [msc])
theorem MachM.k15 {w : World} {g : Nat} {K : Cg} {S : Ms} {L : List Fm} {fv ov : Value} {F Q : Nat → Prop} (h : MachM w g K S L fv ov F Q) : w.cell? ⟨g, 15, none⟩ = some (.int .i64 S.ph) := h.at_ 15 (.int .i64 S.ph) (by simp [msc])
theorem MachM.k16 {w : World} {g : Nat} {K : Cg} {S : Ms} {L : List Fm} {fv ov : Value} {F Q : Nat → Prop} (h : MachM w g K S L fv ov F Q) : w.cell? ⟨g, 16, none⟩ = some (.int .i64 S.tr) := h.at_ 16 (.int .i64 S.tr) (by simp [msc])
theorem MachM.fc {w : World} {g : Nat} {K : Cg} {S : Ms} {L : List Fm} {fv ov : Value} {F Q : Nat → Prop} (h : MachM w g K S L fv ov F Q) (hL : 0 < L.length) : ∃ gf cap, fv = .slice (some ⟨gf, 0, none⟩) L.length cap ∧ L.length ≤ cap ∧ (∀ i m, L[i]? = some m → w.cell? ⟨gf, i * 4, none⟩ = some (.int .i64 m.f.fn) ∧ w.cell? ⟨gf, i * 4 + 1, none⟩ = some (.int .i64 m.f.pc) ∧ w.cell? ⟨gf, i * 4 + 2, none⟩ = some m.sv ∧ w.cell? ⟨gf, i * 4 + 3, none⟩ = some m.tv) ∧ ∀ j, w.frozen? ⟨gf, j, none⟩ = false := by
  obtain ⟨q, cap, e, hc, hr⟩ := rown_slice h.fr
  obtain ⟨gf, rfl, hr2⟩ := hr hL
  refine ⟨gf, cap, e, hc, fun i m hi => ?_, fun j => (rown_blk h.fr gf (by rw [e]; exact obk_pos (by omega))).unfrozen j⟩
  obtain ⟨hil, rfl⟩ := List.getElem?_eq_some_iff.1 hi
  have k := fun j (hj : j < 4) v hv => hr2 (i * 4 + j) v ((flat_at fmc 4 (fun _ => rfl) L i j hil hj).trans hv)
  refine ⟨?_, ?_, ?_, ?_⟩
  · have := k 0 (by decide) _ rfl; rwa [Nat.zero_add] at this
  · have := k 1 (by decide) _ rfl; rwa [Nat.zero_add] at this
  · have := k 2 (by decide) _ rfl; rwa [Nat.zero_add] at this
  · have := k 3 (by decide) _ rfl; rwa [Nat.zero_add] at this
theorem MachM.fob {w : World} {g : Nat} {K : Cg} {S : Ms} {L : List Fm} {ov : Value} {F Q : Nat → Prop} {gf n cap : Nat} (h : MachM w g K S L (.slice (some ⟨gf, 0, none⟩) n cap) ov F Q) (hL : 0 < L.length) : obk (.slice (some ⟨gf, 0, none⟩) n cap) = some gf := by
  obtain ⟨q, c, e, hc, -⟩ := rown_slice h.fr
  injection e with e1 e2 e3
  exact obk_pos (by omega)
theorem MachM.fblk {w : World} {g : Nat} {K : Cg} {S : Ms} {L : List Fm} {ov : Value} {F Q : Nat → Prop} {gf n cap : Nat} (h : MachM w g K S L (.slice (some ⟨gf, 0, none⟩) n cap) ov F Q) (hL : 0 < L.length) : Blk w gf 89 (L.length * 4) := rown_blk h.fr gf (h.fob hL)
set_option maxHeartbeats 400000 in
theorem mnumber_any (n : Int) (w : World) : Calls Tryz.prog 108 #[.int .i64 n] w fun e w' => e = .returned (.agg #[.int .i64 1, .int .i64 n, .string Hp.e0]) ∧ Below w.heap.size w w' := by
  go_enter Tryz.func108, Tryz.ntmps108
  go_wp2
  refine bodyPost_ret (v := .agg #[.int .i64 1, .int .i64 n, .string Hp.e0]) (by simp [results, Tryz.results108, go_sem]) rfl ⟨rfl, ?_⟩
  exact (Below.refl _ w).alloc (Nat.le_refl _) _
def kindS (s : Int) : Int := min s 4
set_option maxHeartbeats 400000 in
theorem kindOf_any (n : Int) (w : World) : Calls Tryz.prog 51 #[.int .i64 n] w fun e w' => e = .returned (.int .i64 (kindS n)) ∧ w' = w := by
  unfold kindS
  go_enter Tryz.func51, Tryz.ntmps51
  go_wp2
  go_ret
  exact ⟨rfl, rfl⟩
def plainS (v : V) : Bool := v.1 == 1 || v.1 == 2 || v.1 == 3
set_option maxHeartbeats 1000000 in
theorem isPlain_any (v : V) (w : World) : Calls Tryz.prog 119 #[.agg #[.int .i64 v.1, .int .i64 v.2.1, .string v.2.2]] w fun e w' => e = .returned (.bool (plainS v)) ∧ Below w.heap.size w w' := by
  obtain ⟨k, n, s⟩ := v
  have B1 : Below w.heap.size w (w.alloc (.cells #[.int .i64 k, .int .i64 n, .string s] 52)) := (Below.refl _ w).alloc (Nat.le_refl _) _
  unfold plainS
  show Calls _ _ _ _ fun e w' => e = .returned (.bool (k == 1 || k == 2 || k == 3)) ∧ _
  cases h1 : (k == 1) <;> cases h2 : (k == 2) <;> cases h3 : (k == 3)
  all_goals
    go_enter Tryz.func119, Tryz.ntmps119
    go_wp2
    go_ret
    exact ⟨rfl, B1⟩
set_option maxHeartbeats 1000000 in
theorem top_any {w : World} {g gf n cap : Nat} (c7 : w.cell? ⟨g, 7, none⟩ = some (.slice (some ⟨gf, 0, none⟩) (n + 1) cap)) (hn : n + 1 ≤ 9223372036854775807) : Calls Tryz.prog 28 #[.pointer (some ⟨g, 0, none⟩)] w fun z w' => z = .returned (.pointer (some ⟨gf, n * 4, none⟩)) ∧ Below w.heap.size w w' := by
  obtain ⟨n1, Hn1⟩ : ∃ n1, Hid (n + 1 = n1) := ⟨_, (rfl : n + 1 = _)⟩
  rw [Hn1.out] at c7 hn
  have hw1 : IntKind.i64.wrap ((n1 : Int) - 1) = (n : Int) := by have := Hn1.out; rw [IntKind.wrap_i64]; omega
  have i0 : (0 : Int) ≤ (n : Int) := by omega
  have i1 : (n : Int) < (n1 : Int) := by have := Hn1.out; omega
  go_enter Tryz.func28, Tryz.ntmps28
  go_upto_region 1 with fail
  have y7 := cell_regrown c7
  refine wp_region_quiet_below (by kernel_rfl) (by kernel_rfl) ?_
  repeat (first | go_big_quiet_step (first | fail) | quiet_step (first | fail))
  refine wpQuiet_nil ?_
  intro _ hw'
  obtain ⟨⟨dq, osq⟩, hw''⟩ := hw'
  subst hw''
  have hY := below_regrown w dq osq
  first | (change Exit.then _ _ Exit.normal _ (Sort.grow (redrawn w dq) osq)) | skip
  generalize Sort.grow (redrawn w dq) osq = Y at hY ⊢
  go_wp2
  go_ret
  exact ⟨rfl, hY⟩
end Go.Proofs.YtahdkffijlfmnaaGreatDoor

namespace Go.Proofs.YtahdkffijlfmnaaGreatDoor
open Go.RowKit
section
variable {P : Program} {e : TypeId} {size : Nat}
theorem app_src (t ty : TypeId) (z : Value) (bytes : Nat) (ht : P.underlying t = some (.slice e)) (hinf : (P.info? e).map (fun i => (i.zero, i.size, i.bytes)) = some (some z, size, bytes)) (hzs : z.cells.size = size) (hsz : 0 < size) (hby : 1 ≤ bytes)
    {w : World} {base G n cap : Nat} {xs : List Value} (hown : w.ownsRow base e size (.slice (some ⟨G, 0, none⟩) n cap) n xs) (q : Option Addr) (m c : Nat) (ys : List Value) (hl : ys.length = m * size) (hq : q = none → m = 0) (hr : 0 < m → ∃ g o, q = some ⟨g, o, none⟩ ∧ w.rangeAt g o ys) (h1 : ∀ u ∈ ys, u.oneCell' = true) (h40 : (n + m) * bytes ≤ 140737488355328) (hbase : base ≤ w.heap.size) :
    ∃ G' cap' w', (Builtin.append_ #[t, t] ty #[.slice (some ⟨G, 0, none⟩) n cap, .slice q m c]).run P w = .ok (.slice (some ⟨G', 0, none⟩) (n + m) cap') w' ∧ w'.ownsRow base e size (.slice (some ⟨G', 0, none⟩) (n + m) cap') (n + m) (xs ++ ys) ∧ w.grownBy w' (some G) := by
  obtain ⟨i, hi, hz0, hz1, hz2⟩ := info_parts hinf
  have hb : (n + m) * bytes ≤ 140737488355328 := h40
  have hnm : n + m ≤ 140737488355328 := Nat.le_trans (Nat.le_mul_of_pos_right (n + m) hby) hb
  cases q with
  | none =>
    obtain rfl := hq rfl
    obtain rfl : ys = [] := List.length_eq_zero_iff.1 (by rw [hl, Nat.zero_mul])
    refine ⟨G, cap, w, ?_, by rw [List.append_nil]; exact hown, World.grownBy.refl w _⟩
    rcases hown.2 with ⟨q, _⟩ | ⟨g, cap', cur, hv, _, _, hnc, _⟩
    · cases q
    · cases hv
      simp [Builtin.append_, run_underlying ht, sizeOf, typeInfo, hi, Builtin.lenOf, Builtin.firstCells, hnc, storeCells]
  | some a =>
    have hnews : ∀ j u, ys[j]? = some u → w.cell? (a.add j) = some u := fun j u hu => by
      rcases Nat.eq_zero_or_pos m with rfl | hm
      · obtain rfl : ys = [] := List.length_eq_zero_iff.1 (by rw [hl, Nat.zero_mul])
        cases hu
      · obtain ⟨g, o, hq, hg⟩ := hr hm
        cases hq
        rw [Addr.add_mid]
        exact hg j u hu
    obtain ⟨v', w', hr, h2, h3, h4⟩ := run_append_own (P := P) w base t ty e i z size bytes ht hi hz0 hz1 hz2 hzs hsz _ n xs hown a m c ys hl hnews h1 (by unfold maxLen; omega) hb hbase
    rcases h2.2 with ⟨q, -⟩ | ⟨G', cap', cur, rfl, -⟩
    · have := (h4.1 q).1
      cases this
    · exact ⟨G', cap', w', hr, h2, h3⟩
end
end Go.Proofs.YtahdkffijlfmnaaGreatDoor
