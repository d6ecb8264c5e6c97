import Derived.WalkKit
namespace Go.Proofs.YtdmiciblfbkndaaDoor

/-- A number: seven bits a byte, the lowest first. -/
def numS (n : Nat) : List UInt8 := if n < 128 then [UInt8.ofNat n] else UInt8.ofNat (n % 128 + 128) :: numS (n / 128)
termination_by n
decreasing_by omega
/-- A signed number as a number, and back. -/
def zz (n : Int) : Nat := if n < 0 then (-2 * n - 1).toNat else (2 * n).toNat
def uz (n : Nat) : Int := if n % 2 = 1 then -((n / 2 : Nat) : Int) - 1 else ((n / 2 : Nat) : Int)
def sgnS (n : Int) : List UInt8 := numS (zz n)
/-- An event. -/
structure Ev where
  k : Int
  n : Int
  nm : List UInt8
  vk : Int
  vn : Int
  vs : List UInt8
deriving DecidableEq
/-- A value may be. -/
def valOk (vk vn : Int) (vs : List UInt8) : Bool :=
  if vk = 0 then vn == 0 && vs == [] else if vk = 1 then vs == [] else if vk = 2 then (vn == 0 || vn == 1) && vs == [] else if vk = 3 then vn == 0 && decide (vs.length ≤ 256) else if vk = 4 then decide (0 ≤ vn) && vs == [] else false
/-- An event may be. -/
def evOk (e : Ev) : Bool := valOk e.vk e.vn e.vs && decide (1 ≤ e.k) && decide (e.k ≤ 8) && decide (0 ≤ e.n) && decide (e.n < 40000) && decide (e.nm.length ≤ 24)
/-- The place of a name, from 1 on; 0: it stands not there. -/
def plc (ns : List (List UInt8)) (x : List UInt8) : Nat := if x ∈ ns then ns.idxOf x + 1 else 0
/-- What is laid of a name; and the names then. -/
def nmS (ns : List (List UInt8)) (x : List UInt8) : List UInt8 := if x = [] then numS 0 else if x ∈ ns then numS (ns.idxOf x + 1) else numS (ns.length + 1) ++ (UInt8.ofNat x.length :: x)
def nmN (ns : List (List UInt8)) (x : List UInt8) : List (List UInt8) := if x = [] then ns else if x ∈ ns then ns else ns ++ [x]
/-- What is laid of a value. -/
def vlS (vk vn : Int) (vs : List UInt8) : List UInt8 := if vk = 1 then sgnS vn else if vk = 2 then [UInt8.ofNat vn.toNat] else if vk = 3 then numS vs.length ++ vs else if vk = 4 then numS vn.toNat else []
/-- What is laid of an event, behind a node and names. -/
def evL (nd : Int) (ns : List (List UInt8)) (e : Ev) : List UInt8 := UInt8.ofNat (e.k.toNat + 16 * e.vk.toNat) :: (sgnS (e.n - nd) ++ nmS ns e.nm ++ vlS e.vk e.vn e.vs)
def evsL : Int → List (List UInt8) → List Ev → List UInt8
  | _, _, [] => []
  | nd, ns, e :: l => evL nd ns e ++ evsL e.n (nmN ns e.nm) l
/-- The body of an events' chunk. -/
def bodyL (l : List Ev) : List UInt8 := 1 :: evsL 0 [] l
/-- Node and names behind some events. -/
def ndA (nd : Int) (l : List Ev) : Int := (l.getLast?.map (·.n)).getD nd
def nsA (ns : List (List UInt8)) (l : List Ev) : List (List UInt8) := l.foldl (fun ns e => nmN ns e.nm) ns
theorem evsL_app : ∀ (l : List Ev) (nd : Int) (ns : List (List UInt8)) (e : Ev), evsL nd ns (l ++ [e]) = evsL nd ns l ++ evL (ndA nd l) (nsA ns l) e := by
  intro l
  induction l with
  | nil => intro nd ns e; simp [evsL, ndA, nsA]
  | cons a l ih =>
    intro nd ns e
    have h1 : ndA nd (a :: l) = ndA a.n l := by
      unfold ndA
      cases l with
      | nil => rfl
      | cons b l => rw [List.getLast?_cons_cons]; simp [List.getLast?_cons]
    show evL nd ns a ++ evsL a.n (nmN ns a.nm) (l ++ [e]) = evL nd ns a ++ evsL a.n (nmN ns a.nm) l ++ _
    rw [ih, h1, List.append_assoc]
    rfl
theorem ndA_app (nd : Int) (l : List Ev) (e : Ev) : ndA nd (l ++ [e]) = e.n := by simp [ndA]
theorem nsA_app (ns : List (List UInt8)) (l : List Ev) (e : Ev) : nsA ns (l ++ [e]) = nmN (nsA ns l) e.nm := by simp [nsA]

/-! What is read: nothing is refused. -/
def byteR : List UInt8 → UInt8 × List UInt8
  | [] => (0, [])
  | b :: r => (b, r)
def numR : Nat → Nat → Nat → List UInt8 → Nat × List UInt8
  | 0, _, acc, r => (acc, r)
  | _ + 1, _, acc, [] => (acc, [])
  | k + 1, sh, acc, b :: r => if b.toNat < 128 then (acc + b.toNat % 128 * 2 ^ sh % 18446744073709551616, r) else numR k (sh + 7) (acc + b.toNat % 128 * 2 ^ sh % 18446744073709551616) r
def nR (r : List UInt8) : Nat × List UInt8 := numR 10 0 0 r
def wrp (n : Int) : Int := (n + 9223372036854775808) % 18446744073709551616 - 9223372036854775808
def nmR (ns : List (List UInt8)) (r : List UInt8) : List UInt8 × List (List UInt8) × List UInt8 :=
  let p := nR r
  if p.1 = 0 then ([], ns, p.2) else if p.1 ≤ ns.length then (ns.getD (p.1 - 1) [], ns, p.2)
  else let c := byteR p.2; (c.2.take c.1.toNat, ns ++ [c.2.take c.1.toNat], c.2.drop c.1.toNat)
def vlR (vk : Int) (r : List UInt8) : Int × List UInt8 × List UInt8 :=
  if vk = 1 then (uz (nR r).1, [], (nR r).2) else if vk = 2 then (((byteR r).1.toNat : Int), [], (byteR r).2) else if vk = 3 then (0, (nR r).2.take (nR r).1, (nR r).2.drop (nR r).1)
  else if vk = 4 then (wrp ((nR r).1 : Int), [], (nR r).2) else (0, [], r)
structure Rd where
  nd : Int
  ns : List (List UInt8)
  r : List UInt8
def evR (s : Rd) : Ev × Rd :=
  let c := byteR s.r
  let u := nR c.2
  let nd := wrp (s.nd + uz u.1)
  let m := nmR s.ns u.2
  let v := vlR (c.1.toNat / 16 : Nat) m.2.2
  (⟨(c.1.toNat % 16 : Nat), nd, m.1, (c.1.toNat / 16 : Nat), v.1, v.2.1⟩, ⟨nd, m.2.1, v.2.2⟩)
def evsR : Nat → Rd → List Ev
  | 0, _ => []
  | k + 1, s => if s.r = [] then [] else (evR s).1 :: evsR k (evR s).2
/-- The events of a body. -/
def bodyR (b : List UInt8) : List Ev := evsR 64 ⟨0, [], (byteR b).2⟩

/-! What is read of what was laid. -/
theorem num_back : ∀ (k sh acc n : Nat) (r : List UInt8), n < 128 ^ k → (k = 0 → False) → acc + n * 2 ^ sh < 18446744073709551616 → numR k sh acc (numS n ++ r) = (acc + n * 2 ^ sh, r) := by
  intro k
  induction k with
  | zero => intro _ _ _ _ _ h; exact absurd rfl h
  | succ k ih =>
    intro sh acc n r hn _ hlt
    unfold numS
    by_cases h : n < 128
    · rw [if_pos h]
      have e : (UInt8.ofNat n).toNat = n := by rw [UInt8.toNat_ofNat']; omega
      show (if (UInt8.ofNat n).toNat < 128 then _ else _) = _
      rw [e, if_pos h, Nat.mod_eq_of_lt h, Nat.mod_eq_of_lt (by omega)]
      rfl
    · rw [if_neg h, List.cons_append]
      have e : (UInt8.ofNat (n % 128 + 128)).toNat = n % 128 + 128 := by rw [UInt8.toNat_ofNat']; omega
      show (if (UInt8.ofNat (n % 128 + 128)).toNat < 128 then _ else _) = _
      have hk : k ≠ 0 := by
        rintro rfl
        simp at hn
        omega
      have hp : n * 2 ^ sh = n % 128 * 2 ^ sh + n / 128 * 2 ^ (sh + 7) := by
        have h1 := Nat.div_add_mod n 128
        have h2 : 2 ^ (sh + 7) = 2 ^ sh * 128 := by rw [Nat.pow_add]
        rw [h2, Nat.mul_comm (2 ^ sh) 128, ← Nat.mul_assoc, ← Nat.add_mul]
        congr 1
        omega
      have hq : n % 128 * 2 ^ sh < 18446744073709551616 := by omega
      rw [e, if_neg (by omega), show (n % 128 + 128) % 128 = n % 128 by omega, Nat.mod_eq_of_lt hq]
      rw [ih (sh + 7) (acc + n % 128 * 2 ^ sh) (n / 128) r (by rw [Nat.pow_succ] at hn; exact Nat.div_lt_of_lt_mul (by omega)) hk (by omega)]
      rw [Nat.add_assoc, ← hp]
theorem nR_back (n : Nat) (h : n < 18446744073709551616) (r : List UInt8) : nR (numS n ++ r) = (n, r) := by
  unfold nR
  rw [num_back 10 0 0 n r (Nat.lt_of_lt_of_le h (by decide)) (by decide) (by omega)]
  simp
theorem uz_zz (n : Int) : uz (zz n) = n := by
  unfold uz zz
  split <;> split <;> omega
theorem zz_lt (n : Int) (h : -9223372036854775808 ≤ n ∧ n ≤ 9223372036854775807) : zz n < 18446744073709551616 := by
  unfold zz
  split <;> omega
theorem wrp_id (n : Int) (h : -9223372036854775808 ≤ n ∧ n ≤ 9223372036854775807) : wrp n = n := by
  unfold wrp
  omega
theorem nm_back (ns : List (List UInt8)) (x r : List UInt8) (hx : x.length ≤ 24) (hn : ns.length < 1000) : nmR ns (nmS ns x ++ r) = (x, nmN ns x, r) := by
  unfold nmS nmN nmR
  by_cases h0 : x = []
  · rw [if_pos h0, if_pos h0]
    simp only
    rw [nR_back 0 (by decide)]
    simp [h0]
  · rw [if_neg h0, if_neg h0]
    by_cases h1 : x ∈ ns
    · rw [if_pos h1, if_pos h1]
      have hi : ns.idxOf x < ns.length := List.idxOf_lt_length_iff.2 h1
      simp only
      rw [nR_back _ (by omega)]
      simp only
      rw [if_neg (by omega), if_pos (by omega)]
      congr 1
      rw [List.getD_eq_getElem?_getD, Nat.add_sub_cancel, List.getElem?_eq_getElem hi, List.getElem_idxOf]
      rfl
    · rw [if_neg h1, if_neg h1]
      simp only [List.append_assoc]
      rw [nR_back _ (by omega)]
      simp only
      rw [if_neg (by omega), if_neg (by omega)]
      have e : (UInt8.ofNat x.length).toNat = x.length := by rw [UInt8.toNat_ofNat']; omega
      simp [byteR, e]
/-- A value that may be is read as it was laid. -/
theorem vl_back (vk vn : Int) (vs r : List UInt8) (h : valOk vk vn vs = true) (hn : -9223372036854775808 ≤ vn ∧ vn ≤ 9223372036854775807) : vlR vk (vlS vk vn vs ++ r) = (vn, vs, r) := by
  unfold valOk at h
  unfold vlR vlS
  by_cases h1 : vk = 1
  · subst h1
    simp at h
    simp only [if_true, sgnS]
    rw [nR_back _ (zz_lt vn hn), uz_zz, h]
  by_cases h2 : vk = 2
  · subst h2
    simp at h
    rcases h with ⟨rfl | rfl, rfl⟩ <;> rfl
  by_cases h3 : vk = 3
  · subst h3
    simp at h
    simp only [if_true]
    rw [if_neg (by decide), if_neg (by decide), if_neg (by decide), if_neg (by decide), List.append_assoc, nR_back _ (by omega)]
    simp [h.1]
  by_cases h4 : vk = 4
  · subst h4
    simp at h
    simp only [if_true]
    rw [if_neg (by decide), if_neg (by decide), if_neg (by decide), if_neg (by decide), if_neg (by decide), if_neg (by decide), nR_back _ (by omega), wrp_id _ (by omega), h.2]
    simp only [Prod.mk.injEq, and_true]
    omega
  by_cases h0 : vk = 0
  · subst h0
    simp at h
    simp [h.1, h.2]
  · simp [h0, h1, h2, h3, h4] at h
theorem evOk_parts {e : Ev} (h : evOk e = true) : valOk e.vk e.vn e.vs = true ∧ 1 ≤ e.k ∧ e.k ≤ 8 ∧ 0 ≤ e.n ∧ e.n < 40000 ∧ e.nm.length ≤ 24 := by
  unfold evOk at h
  simp only [Bool.and_eq_true, decide_eq_true_eq] at h
  exact ⟨h.1.1.1.1.1, h.1.1.1.1.2, h.1.1.1.2, h.1.1.2, h.1.2, h.2⟩
theorem valOk_kind {vk vn : Int} {vs : List UInt8} (h : valOk vk vn vs = true) : 0 ≤ vk ∧ vk ≤ 4 := by
  unfold valOk at h
  refine ⟨?_, ?_⟩ <;> · refine Decidable.byContradiction fun hn => ?_; simp [show vk ≠ 0 by omega, show vk ≠ 1 by omega, show vk ≠ 2 by omega, show vk ≠ 3 by omega, show vk ≠ 4 by omega] at h
theorem ev_back (e : Ev) (nd : Int) (ns : List (List UInt8)) (r : List UInt8) (h : evOk e = true) (hv : -9223372036854775808 ≤ e.vn ∧ e.vn ≤ 9223372036854775807) (hnd : 0 ≤ nd ∧ nd < 40000) (hns : ns.length < 1000) : evR ⟨nd, ns, evL nd ns e ++ r⟩ = (e, ⟨e.n, nmN ns e.nm, r⟩) := by
  obtain ⟨hok, hk1, hk8, hn0, hn1, hnm⟩ := evOk_parts h
  have hk := valOk_kind hok
  have hb : (UInt8.ofNat (e.k.toNat + 16 * e.vk.toNat)).toNat = e.k.toNat + 16 * e.vk.toNat := by rw [UInt8.toNat_ofNat']; omega
  unfold evR evL
  simp only [List.cons_append, byteR, List.append_assoc, sgnS]
  rw [nR_back _ (zz_lt _ (by omega)), uz_zz, hb]
  simp only
  rw [nm_back ns e.nm _ hnm hns]
  simp only
  rw [show ((e.k.toNat + 16 * e.vk.toNat) / 16 : Nat) = e.vk.toNat by omega, show ((e.k.toNat + 16 * e.vk.toNat) % 16 : Nat) = e.k.toNat by omega, Int.toNat_of_nonneg hk.1, Int.toNat_of_nonneg (by omega), vl_back _ _ _ _ hok hv, show nd + (e.n - nd) = e.n by omega, wrp_id e.n (by omega)]
theorem nmN_len (ns : List (List UInt8)) (x : List UInt8) : (nmN ns x).length ≤ ns.length + 1 := by
  unfold nmN
  split
  · omega
  · split <;> simp
theorem evL_ne (nd : Int) (ns : List (List UInt8)) (e : Ev) : evL nd ns e ≠ [] := by simp [evL]
theorem evs_back : ∀ (l : List Ev) (k : Nat) (nd : Int) (ns : List (List UInt8)), (∀ e ∈ l, evOk e = true ∧ (-9223372036854775808 ≤ e.vn ∧ e.vn ≤ 9223372036854775807)) → l.length ≤ k → 0 ≤ nd ∧ nd < 40000 → ns.length + l.length < 1000 → evsR k ⟨nd, ns, evsL nd ns l⟩ = l := by
  intro l
  induction l with
  | nil => intro k nd ns _ _ _ _; cases k <;> simp [evsR, evsL]
  | cons e l ih =>
    intro k nd ns hl hk hnd hns
    obtain ⟨h1, h2⟩ := hl e (by simp)
    match k, hk with
    | k + 1, hk =>
      simp only [List.length_cons] at hk hns
      show (if evL nd ns e ++ evsL e.n (nmN ns e.nm) l = [] then [] else _) = _
      rw [if_neg (by simp [evL])]
      show (evR ⟨nd, ns, evL nd ns e ++ evsL e.n (nmN ns e.nm) l⟩).1 :: evsR k (evR ⟨nd, ns, evL nd ns e ++ evsL e.n (nmN ns e.nm) l⟩).2 = _
      rw [ev_back e nd ns _ h1 h2 hnd (by omega)]
      have := nmN_len ns e.nm
      obtain ⟨-, -, -, h3, h4, -⟩ := evOk_parts h1
      rw [ih k e.n (nmN ns e.nm) (fun x hx => hl x (by simp [hx])) (by omega) ⟨h3, h4⟩ (by omega)]
/-- The body of events that may be is read as these events. -/
theorem body_back (l : List Ev) (hl : ∀ e ∈ l, evOk e = true ∧ (-9223372036854775808 ≤ e.vn ∧ e.vn ≤ 9223372036854775807)) (h64 : l.length ≤ 64) : bodyR (bodyL l) = l := by
  unfold bodyR bodyL
  exact evs_back l 64 0 [] hl h64 (by decide) (by simp; omega)
end Go.Proofs.YtdmiciblfbkndaaDoor

namespace Go.Proofs.YtdmiciblfbkndaaDoor

/-- A number's lowest bytes, the highest first; and back. -/
def fxS (n : Nat) : Nat → List UInt8
  | 0 => []
  | k + 1 => UInt8.ofNat (n / 256 ^ k) :: fxS n k
def fxO (b : List UInt8) : Nat := b.foldl (fun a c => a * 256 + c.toNat) 0
theorem fxS_len (n k : Nat) : (fxS n k).length = k := by
  induction k with
  | zero => rfl
  | succ k ih => simp [fxS, ih]
theorem fxO_from (b : List UInt8) (a : Nat) : b.foldl (fun a c => a * 256 + c.toNat) a = a * 256 ^ b.length + fxO b := by
  unfold fxO
  induction b generalizing a with
  | nil => simp
  | cons c b ih =>
    rw [List.foldl_cons, List.foldl_cons, ih, ih (0 * 256 + c.toNat), List.length_cons, Nat.pow_succ, Nat.zero_mul, Nat.zero_add, Nat.add_mul, Nat.mul_assoc, Nat.mul_comm 256, Nat.add_assoc]
theorem fxO_cons (c : UInt8) (b : List UInt8) : fxO (c :: b) = c.toNat * 256 ^ b.length + fxO b := by
  show List.foldl _ (0 * 256 + c.toNat) b = _
  rw [fxO_from, Nat.zero_mul, Nat.zero_add]
theorem fxO_fxS (n k : Nat) : fxO (fxS n k) = n % 256 ^ k := by
  induction k with
  | zero => simp [fxS, fxO, Nat.mod_one]
  | succ k ih =>
    show fxO (UInt8.ofNat (n / 256 ^ k) :: fxS n k) = _
    have e : n % (256 ^ k * 256) = n % 256 ^ k + 256 ^ k * (n / 256 ^ k % 256) := Nat.mod_mul
    rw [fxO_cons, fxS_len, ih, UInt8.toNat_ofNat', show 256 ^ (k + 1) = 256 ^ k * 256 from Nat.pow_succ _ _, e, Nat.add_comm, Nat.mul_comm]
theorem fxO_lt (b : List UInt8) : fxO b < 256 ^ b.length := by
  induction b with
  | nil => simp [fxO]
  | cons c b ih =>
    rw [fxO_cons, List.length_cons, Nat.pow_succ]
    have := c.toNat_lt
    have h2 := Nat.mul_le_mul_right (256 ^ b.length) (show c.toNat + 1 ≤ 256 by omega)
    rw [Nat.add_mul, Nat.one_mul] at h2
    omega
theorem fxS_fxO (b : List UInt8) : fxS (fxO b) b.length = b := by
  suffices h : ∀ (b : List UInt8) (m : Nat), fxS (m * 256 ^ b.length + fxO b) b.length = b by
    have := h b 0
    rwa [Nat.zero_mul, Nat.zero_add] at this
  intro b
  induction b with
  | nil => intro m; rfl
  | cons c b ih =>
    intro m
    have h1 := fxO_lt b
    have hp : 0 < 256 ^ b.length := Nat.pow_pos (by decide)
    rw [fxO_cons, List.length_cons, Nat.pow_succ]
    have e : m * (256 ^ b.length * 256) + (c.toNat * 256 ^ b.length + fxO b) = (m * 256 + c.toNat) * 256 ^ b.length + fxO b := by
      rw [Nat.add_mul, Nat.mul_assoc, Nat.mul_comm 256, Nat.add_assoc]
    rw [e]
    show UInt8.ofNat (((m * 256 + c.toNat) * 256 ^ b.length + fxO b) / 256 ^ b.length) :: fxS ((m * 256 + c.toNat) * 256 ^ b.length + fxO b) b.length = _
    rw [ih]
    congr 1
    have hd : ((m * 256 + c.toNat) * 256 ^ b.length + fxO b) / 256 ^ b.length = m * 256 + c.toNat := by
      rw [Nat.mul_comm, Nat.mul_add_div hp, Nat.div_eq_of_lt h1, Nat.add_zero]
    rw [hd]
    apply UInt8.toNat_inj.1
    rw [UInt8.toNat_ofNat']
    have := c.toNat_lt
    omega

/-! The sum. -/
def crcT : List (BitVec 32) := [0x00000000#32, 0x1db71064#32, 0x3b6e20c8#32, 0x26d930ac#32, 0x76dc4190#32, 0x6b6b51f4#32, 0x4db26158#32, 0x5005713c#32, 0xedb88320#32, 0xf00f9344#32, 0xd6d6a3e8#32, 0xcb61b38c#32, 0x9b64c2b0#32, 0x86d3d2d4#32, 0xa00ae278#32, 0xbdbdf21c#32]
def crcN (r : BitVec 32) : BitVec 32 := (r >>> 4) ^^^ crcT.getD (r.toNat % 16) 0#32
def crcB (r : BitVec 32) (b : UInt8) : BitVec 32 := crcN (crcN (r ^^^ BitVec.ofNat 32 b.toNat))
def crcR (b : List UInt8) : BitVec 32 := b.foldl crcB 0xffffffff#32
def sumS (b : List UInt8) : Nat := (0xffffffff#32 ^^^ crcR b).toNat
theorem sumS_lt (b : List UInt8) : sumS b < 4294967296 := (0xffffffff#32 ^^^ crcR b).isLt

/-! Chunks. -/
def chS (body : List UInt8) : List UInt8 := fxS body.length 4 ++ body ++ fxS (sumS (fxS body.length 4 ++ body)) 4
theorem chS_len (body : List UInt8) : (chS body).length = 8 + body.length := by
  unfold chS
  simp only [List.length_append, fxS_len]
  omega
def firstS (b : List UInt8) : Option (List UInt8) :=
  if b.length < 8 then none
  else if fxO (b.take 4) = 0 ∨ b.length - 8 < fxO (b.take 4) then none
  else if sumS (b.take (4 + fxO (b.take 4))) = fxO ((b.drop (4 + fxO (b.take 4))).take 4) then some ((b.take (4 + fxO (b.take 4))).drop 4) else none
theorem first_ch (body r : List UInt8) (h0 : body ≠ []) (h1 : body.length < 4294967296) : firstS (chS body ++ r) = some body := by
  have hp : 0 < body.length := List.length_pos_iff.2 h0
  have e1 : (chS body ++ r).take 4 = fxS body.length 4 := by
    unfold chS
    rw [List.append_assoc, List.append_assoc, List.take_append_of_le_length (by rw [fxS_len]; exact Nat.le_refl _), List.take_of_length_le (by rw [fxS_len]; exact Nat.le_refl _)]
  have e2 : fxO ((chS body ++ r).take 4) = body.length := by rw [e1, fxO_fxS]; exact Nat.mod_eq_of_lt h1
  have e3 : (chS body ++ r).take (4 + body.length) = fxS body.length 4 ++ body := by
    unfold chS
    rw [List.append_assoc, List.take_append_of_le_length (by rw [List.length_append, fxS_len]; exact Nat.le_refl _), List.take_of_length_le (by rw [List.length_append, fxS_len]; exact Nat.le_refl _)]
  have e4 : ((chS body ++ r).drop (4 + body.length)).take 4 = fxS (sumS (fxS body.length 4 ++ body)) 4 := by
    unfold chS
    rw [List.append_assoc, List.drop_append_of_le_length (by rw [List.length_append, fxS_len]; exact Nat.le_refl _), List.drop_of_length_le (by rw [List.length_append, fxS_len]; exact Nat.le_refl _), List.nil_append, List.take_append_of_le_length (by rw [fxS_len]; exact Nat.le_refl _), List.take_of_length_le (by rw [fxS_len]; exact Nat.le_refl _)]
  have hl : (chS body ++ r).length = 8 + body.length + r.length := by rw [List.length_append, chS_len]
  unfold firstS
  rw [if_neg (by omega), e2, if_neg (by omega), e3, e4, fxO_fxS, if_pos (Nat.mod_eq_of_lt (sumS_lt _)).symm, List.drop_append_of_le_length (by rw [fxS_len]; exact Nat.le_refl _), List.drop_of_length_le (by rw [fxS_len]; exact Nat.le_refl _)]
  rfl
theorem first_is (b body : List UInt8) (h : firstS b = some body) : body ≠ [] ∧ body.length < 4294967296 ∧ b = chS body ++ b.drop (8 + body.length) := by
  unfold firstS at h
  split at h
  · cases h
  · split at h
    · cases h
    · split at h
      · rename_i h1 h2 h3
        have hb := Option.some.inj h
        have hl : body.length = fxO (b.take 4) := by
          rw [← hb, List.length_drop, List.length_take]
          omega
        have hlt := fxO_lt (b.take 4)
        rw [List.length_take, Nat.min_eq_left (by omega)] at hlt
        have hcat : b.take (4 + fxO (b.take 4)) = fxS body.length 4 ++ body := by
          have e := fxS_fxO (b.take 4)
          rw [List.length_take, Nat.min_eq_left (by omega), ← hl] at e
          rw [e, ← hb]
          conv => lhs; rw [← List.take_append_drop 4 (b.take (4 + fxO (b.take 4)))]
          congr 1
          rw [List.take_take, Nat.min_eq_left (by omega)]
        refine ⟨fun e => by rw [e] at hl; simp at hl; omega, by rw [hl]; exact hlt, ?_⟩
        have hs : (b.drop (4 + body.length)).take 4 = fxS (sumS (fxS body.length 4 ++ body)) 4 := by
          rw [← hcat, h3, ← hl]
          have e := fxS_fxO ((b.drop (4 + body.length)).take 4)
          rw [List.length_take, List.length_drop, Nat.min_eq_left (by omega)] at e
          exact e.symm
        have h5 : (b.drop (4 + body.length)).drop 4 = b.drop (8 + body.length) := by
          rw [List.drop_drop]
          congr 1
          omega
        unfold chS
        rw [← hs, ← hcat, ← hl, List.append_assoc, ← h5, List.take_append_drop, List.take_append_drop]
      · cases h

/-! Records. -/
structure Rc where
  ph : Int
  tr : Int
  out : List UInt8
  inp : Int
  evs : List Ev
deriving DecidableEq
def endOk (ph tr inp : Int) : Bool := ((decide (ph = 0 ∨ ph = 1) && tr == 0) || (ph == 2 && decide (1 ≤ tr) && decide (tr ≤ 7))) && decide (0 ≤ inp) && decide (inp ≤ 1000)
def lastL (rc : Rc) : List UInt8 := [2, UInt8.ofNat rc.ph.toNat, UInt8.ofNat rc.tr.toNat] ++ fxS rc.inp.toNat 2 ++ fxS rc.evs.length 4 ++ rc.out
/-- A list in parts of 64. -/
def cks (l : List Ev) : List (List Ev) := if l = [] then [] else l.take 64 :: cks (l.drop 64)
termination_by l.length
decreasing_by
  rename_i h
  have := List.length_pos_iff.2 h
  rw [List.length_drop]
  omega
def evF (l : List Ev) : List UInt8 := (cks l).flatMap fun p => chS (bodyL p)
def fileL (rc : Rc) : List UInt8 := [82, 1] ++ evF rc.evs ++ chS (lastL rc)
/-- What Encode answers. -/
def encS (rc : Rc) : List UInt8 × Int :=
  if 1048576 < rc.evs.length ∨ 16777216 < rc.out.length then ([], 2) else if (endOk rc.ph rc.tr rc.inp && rc.evs.all evOk) = true then (fileL rc, 0) else ([], 1)
/-! The way through a file. -/
structure Wy where
  rc : Rc
  len : Nat
  fin : Bool
def lastR (body : List UInt8) (evs : List Ev) : Rc :=
  let r := (byteR body).2
  ⟨((byteR r).1.toNat : Int), ((byteR (byteR r).2).1.toNat : Int), (byteR (byteR r).2).2.drop 6, (fxO ((byteR (byteR r).2).2.take 2) : Int), evs⟩
def takeE (w : Wy) (body : List UInt8) : Option Wy :=
  if w.rc.evs.length % 64 ≠ 0 ∨ w.rc.evs.length = 1048576 then none
  else if bodyR body ≠ [] ∧ (bodyR body).all evOk = true ∧ bodyL (bodyR body) = body then some ⟨{ w.rc with evs := w.rc.evs ++ bodyR body }, w.len, false⟩ else none
def takeL (w : Wy) (body : List UInt8) : Option Wy :=
  let l := lastR body w.rc.evs
  if l.out.length ≤ 16777216 ∧ endOk l.ph l.tr l.inp = true ∧ lastL l = body then some ⟨l, w.len, true⟩ else none
def takeS (w : Wy) (body : List UInt8) : Option Wy :=
  if w.fin = true then none else if (byteR body).1 = 1 then takeE w body else if (byteR body).1 = 2 then takeL w body else none
def folW : Nat → Wy → List UInt8 → Wy
  | 0, w, _ => w
  | k + 1, w, r => match firstS r with
    | none => w
    | some body => match takeS w body with
      | none => w
      | some w' => folW k ⟨w'.rc, w'.len + (8 + body.length), w'.fin⟩ (r.drop (8 + body.length))
def wy0 : Wy := ⟨⟨0, 0, [], 0, []⟩, 2, false⟩
def followS (b : List UInt8) : Option Wy := if b.take 2 = [82, 1] then some (folW b.length wy0 (b.drop 2)) else none
def rc0 : Rc := ⟨0, 0, [], 0, []⟩
/-- What Decode and Salvage answer. -/
def decS (b : List UInt8) : Rc × Int := match followS b with
  | none => (rc0, 250)
  | some w => if w.fin = true ∧ b.length ≤ w.len then (w.rc, 0) else (rc0, 250)
def salS (b : List UInt8) : Rc × Nat × Int := match followS b with
  | none => (rc0, 0, 250)
  | some w => (w.rc, w.len, 0)
end Go.Proofs.YtdmiciblfbkndaaDoor

namespace Go.Proofs.YtdmiciblfbkndaaDoor

theorem cks_nil : cks [] = [] := by unfold cks; rfl
theorem cks_cons {l : List Ev} (h : l ≠ []) : cks l = l.take 64 :: cks (l.drop 64) := by rw [cks]; rw [if_neg h]
theorem cks_app : ∀ (k : Nat) (l p : List Ev), l.length ≤ k → l.length % 64 = 0 → p ≠ [] → p.length ≤ 64 → cks (l ++ p) = cks l ++ [p] := by
  intro k
  induction k with
  | zero =>
    intro l p hk _ hp h64
    obtain rfl : l = [] := List.length_eq_zero_iff.1 (by omega)
    rw [List.nil_append, cks_nil, cks_cons hp, List.take_of_length_le h64, List.drop_of_length_le h64, cks_nil]
    rfl
  | succ k ih =>
    intro l p hk hm hp h64
    by_cases h : l = []
    · subst h
      rw [List.nil_append, cks_nil, cks_cons hp, List.take_of_length_le h64, List.drop_of_length_le h64, cks_nil]
      rfl
    · have h1 := List.length_pos_iff.2 h
      rw [cks_cons h, cks_cons (by simp [h]), List.take_append_of_le_length (by omega), List.drop_append_of_le_length (by omega), ih (l.drop 64) p (by rw [List.length_drop]; omega) (by rw [List.length_drop]; omega) hp h64]
      rfl
theorem evF_nil : evF [] = [] := by unfold evF; rw [cks_nil]; rfl
theorem evF_app (l p : List Ev) (hm : l.length % 64 = 0) (hp : p ≠ []) (h64 : p.length ≤ 64) : evF (l ++ p) = evF l ++ chS (bodyL p) := by
  unfold evF
  rw [cks_app _ l p (Nat.le_refl _) hm hp h64]
  simp
theorem evsR_len : ∀ (k : Nat) (s : Rd), (evsR k s).length ≤ k := by
  intro k
  induction k with
  | zero => intro s; simp [evsR]
  | succ k ih =>
    intro s
    unfold evsR
    split
    · simp
    · simp only [List.length_cons]
      have := ih (evR s).2
      omega
theorem bodyR_len (b : List UInt8) : (bodyR b).length ≤ 64 := evsR_len _ _

/-- What is ahead of a way's place. -/
def preW (w : Wy) : List UInt8 := [82, 1] ++ evF w.rc.evs ++ (if w.fin = true then chS (lastL w.rc) else [])
/-- What is known between two chunks. -/
structure WyOk (b : List UInt8) (w : Wy) (r : List UInt8) : Prop where
  cat : b = preW w ++ r
  len : w.len = (preW w).length
  evs : w.rc.evs.all evOk = true
  most : w.rc.evs.length ≤ 1048576
  out : w.rc.out.length ≤ 16777216
  fin : endOk w.rc.ph w.rc.tr w.rc.inp = true
  zer : w.fin = false → w.rc = ⟨0, 0, [], 0, w.rc.evs⟩
theorem way_ok : ∀ (k : Nat) (b : List UInt8) (w : Wy) (r : List UInt8), WyOk b w r → ∃ r', WyOk b (folW k w r) r' := by
  intro k
  induction k with
  | zero => intro b w r h; exact ⟨r, h⟩
  | succ k ih =>
    intro b w r h
    unfold folW
    cases hf : firstS r with
    | none => exact ⟨r, h⟩
    | some body =>
      obtain ⟨hb0, hb1, hb2⟩ := first_is r body hf
      cases ht : takeS w body with
      | none => exact ⟨r, by simpa only [ht] using h⟩
      | some w' =>
        simp only [ht]
        refine ih b _ _ ?_
        obtain ⟨t, htd⟩ : ∃ t, r.drop (8 + body.length) = t := ⟨_, rfl⟩
        rw [htd] at hb2 ⊢
        unfold takeS at ht
        split at ht
        · cases ht
        · rename_i hfin
          have hfin : w.fin = false := by simpa using hfin
          have hz := h.zer hfin
          have hpre : preW w = [82, 1] ++ evF w.rc.evs := by unfold preW; rw [hfin]; simp
          split at ht
          · unfold takeE at ht
            split at ht
            · cases ht
            · rename_i hm
              split at ht
              · rename_i he
                obtain ⟨he1, he2, he3⟩ := he
                have h64 := bodyR_len body
                have hmo := h.most
                obtain rfl := (Option.some.inj ht).symm
                have hF := evF_app w.rc.evs (bodyR body) (by omega) he1 h64
                rw [he3] at hF
                refine ⟨?_, ?_, ?_, ?_, h.out, h.fin, fun _ => ?_⟩
                · unfold preW
                  simp only [hF]
                  rw [h.cat, hpre, hb2]
                  simp
                · have := h.len
                  unfold preW
                  simp only [hF]
                  rw [this, hpre]
                  simp [chS_len]
                  omega
                · simp only [List.all_append, h.evs, he2, Bool.and_self]
                · simp only [List.length_append]; omega
                · simp only
                  rw [hz]
              · cases ht
          · split at ht
            · unfold takeL at ht
              simp only at ht
              split at ht
              · rename_i he
                obtain ⟨he1, he2, he3⟩ := he
                obtain rfl := (Option.some.inj ht).symm
                refine ⟨?_, ?_, h.evs, h.most, he1, he2, fun q => by cases q⟩
                · unfold preW
                  simp only [if_true]
                  rw [he3, show (lastR body w.rc.evs).evs = w.rc.evs from rfl, h.cat, hpre, hb2, List.append_assoc, List.append_assoc, List.append_assoc]
                · have := h.len
                  unfold preW
                  simp only [if_true]
                  rw [he3, show (lastR body w.rc.evs).evs = w.rc.evs from rfl, this, hpre, List.length_append (bs := chS body), chS_len]
              · cases ht
            · cases ht
theorem wy0_ok (b : List UInt8) (h : b.take 2 = [82, 1]) : WyOk b wy0 (b.drop 2) :=
  ⟨by
    show b = [82, 1] ++ evF [] ++ [] ++ b.drop 2
    rw [evF_nil, List.append_nil, List.append_nil, ← h, List.take_append_drop], by show 2 = ([82, 1] ++ evF [] ++ [] : List UInt8).length; rw [evF_nil]; rfl, rfl, by decide, by decide, by decide, fun _ => rfl⟩
theorem enc_of {rc : Rc} (h1 : rc.evs.all evOk = true) (h2 : rc.evs.length ≤ 1048576) (h3 : rc.out.length ≤ 16777216) (h4 : endOk rc.ph rc.tr rc.inp = true) : encS rc = (fileL rc, 0) := by
  unfold encS
  rw [if_neg (by omega), h1, h4]
  rfl
/-- What is decoded is encoded to the same bytes. -/
theorem dec_enc (b : List UInt8) (h : (decS b).2 = 0) : encS (decS b).1 = (b, 0) := by
  unfold decS at h ⊢
  cases hf : followS b with
  | none => rw [hf] at h; cases h
  | some w =>
    rw [hf] at h
    simp only at h ⊢
    by_cases hc : w.fin = true ∧ b.length ≤ w.len
    · rw [if_pos hc]
      unfold followS at hf
      split at hf
      · rename_i h2
        have hw := Option.some.inj hf
        obtain ⟨r', hok⟩ := way_ok b.length b wy0 (b.drop 2) (wy0_ok b h2)
        rw [hw] at hok
        simp only
        rw [enc_of hok.evs hok.most hok.out hok.fin]
        have e1 : preW w = fileL w.rc := by unfold preW fileL; rw [hc.1]; rfl
        have e2 := hok.cat
        have e3 : r' = [] := by
          have := congrArg List.length e2
          rw [List.length_append, ← hok.len] at this
          exact List.length_eq_zero_iff.1 (by omega)
        rw [e3, List.append_nil, e1] at e2
        rw [← e2]
      · cases hf
    · rw [if_neg hc] at h; cases h
/-- What is saved has just the bytes that were taken as the beginning of its file. -/
theorem sal_enc (b : List UInt8) : ((salS b).2.2 = 250 ∧ (salS b).2.1 = 0 ∧ b.take 2 ≠ [82, 1]) ∨ ((salS b).2.2 = 0 ∧ (encS (salS b).1).2 = 0 ∧ 2 ≤ (salS b).2.1 ∧ (salS b).2.1 ≤ b.length ∧ (salS b).2.1 ≤ (encS (salS b).1).1.length ∧ (encS (salS b).1).1.take (salS b).2.1 = b.take (salS b).2.1) := by
  unfold salS
  cases hf : followS b with
  | none =>
    refine .inl ⟨rfl, rfl, ?_⟩
    intro h
    unfold followS at hf
    rw [if_pos h] at hf
    cases hf
  | some w =>
    refine .inr ⟨rfl, ?_⟩
    unfold followS at hf
    split at hf
    · rename_i h2
      have hw := Option.some.inj hf
      obtain ⟨r', hok⟩ := way_ok b.length b wy0 (b.drop 2) (wy0_ok b h2)
      rw [hw] at hok
      simp only
      rw [enc_of hok.evs hok.most hok.out hok.fin]
      have hp : ∃ t, fileL w.rc = preW w ++ t := by
        unfold fileL preW
        cases w.fin with
        | true => exact ⟨[], by simp⟩
        | false => exact ⟨chS (lastL w.rc), by simp⟩
      obtain ⟨t, ht⟩ := hp
      have e2 := hok.cat
      refine ⟨rfl, ?_, ?_, ?_, ?_⟩
      · rw [hok.len]; unfold preW; simp
      · rw [hok.len, e2]; simp
      · show w.len ≤ (fileL w.rc).length
        rw [hok.len, ht]; simp
      · show (fileL w.rc).take w.len = b.take w.len
        rw [ht, e2, hok.len]
        simp
    · cases hf
end Go.Proofs.YtdmiciblfbkndaaDoor

namespace Go.Proofs.YtdmiciblfbkndaaDoor

theorem takeS_keep {w w' : Wy} {body : List UInt8} (h : takeS w body = some w') : w'.len = w.len ∧ (w.rc.evs.length ≤ 1048576 → w'.rc.evs.length ≤ 1048576) := by
  unfold takeS at h
  split at h
  · cases h
  · split at h
    · unfold takeE at h
      split at h
      · cases h
      · rename_i hm
        split at h
        · obtain rfl := (Option.some.inj h).symm
          have := bodyR_len body
          refine ⟨rfl, fun hk => ?_⟩
          simp only [List.length_append]
          omega
        · cases h
    · split at h
      · unfold takeL at h
        simp only at h
        split at h
        · obtain rfl := (Option.some.inj h).symm
          exact ⟨rfl, fun hk => hk⟩
        · cases h
      · cases h
theorem first_le {r body : List UInt8} (h : firstS r = some body) : body ≠ [] ∧ 8 + body.length ≤ r.length := by
  obtain ⟨h1, h2, h3⟩ := first_is r body h
  refine ⟨h1, ?_⟩
  have := congrArg List.length h3
  rw [List.length_append, chS_len] at this
  omega
theorem fol_none {k : Nat} {w : Wy} {r : List UInt8} (h : firstS r = none) : folW k w r = w := by
  cases k with
  | zero => rfl
  | succ k => unfold folW; rw [h]
theorem fol_stop {k : Nat} {w : Wy} {r body : List UInt8} (h : firstS r = some body) (ht : takeS w body = none) : folW k w r = w := by
  cases k with
  | zero => rfl
  | succ k => unfold folW; rw [h]; simp only [ht]
theorem fol_go {k : Nat} {w w' : Wy} {r body : List UInt8} (h : firstS r = some body) (ht : takeS w body = some w') (hk : r.length < k) : folW k w r = folW (k - 1) ⟨w'.rc, w'.len + (8 + body.length), w'.fin⟩ (r.drop (8 + body.length)) := by
  cases k with
  | zero => omega
  | succ k =>
    conv => lhs; unfold folW
    rw [h]
    simp only [ht, Nat.add_sub_cancel]
/-- How many bytes chunks with such bodies take. -/
def totB (pre : List ByteArray) : Nat := pre.foldl (fun n x => n + (8 + x.size)) 0
theorem totB_snoc (pre : List ByteArray) (x : ByteArray) : totB (pre ++ [x]) = totB pre + (8 + x.size) := by simp [totB]
/-- How far the way has come behind these bodies. -/
structure FoI (b : List UInt8) (pre : List ByteArray) (w : Wy) : Prop where
  fol : ∃ k, folW b.length wy0 (b.drop 2) = folW k w ((b.drop 2).drop (totB pre)) ∧ ((b.drop 2).drop (totB pre)).length < k
  len : w.len = 2 + totB pre ∧ totB pre + 2 ≤ b.length
  evs : w.rc.evs.length ≤ 1048576
theorem FoI.zero {b : List UInt8} (h : b.take 2 = [82, 1]) : FoI b [] wy0 := by
  have h2 : 2 ≤ b.length := by have := congrArg List.length h; rw [List.length_take] at this; simp at this; omega
  exact ⟨⟨b.length, rfl, by show ((b.drop 2).drop 0).length < _; rw [List.length_drop, List.length_drop]; omega⟩, ⟨rfl, by show 0 + 2 ≤ _; omega⟩, by decide⟩
theorem FoI.go {b : List UInt8} {pre : List ByteArray} {w w' : Wy} {x : ByteArray} (h : FoI b pre w) (hx : firstS ((b.drop 2).drop (totB pre)) = some x.data.toList) (ht : takeS w x.data.toList = some w') : FoI b (pre ++ [x]) ⟨w'.rc, w'.len + (8 + x.size), w'.fin⟩ := by
  obtain ⟨k, h1, h2⟩ := h.fol
  obtain ⟨k1, k2⟩ := takeS_keep ht
  have hz : x.size = x.data.toList.length := Array.length_toList.symm
  obtain ⟨-, hle⟩ := first_le hx
  have hd : ((b.drop 2).drop (totB pre)).drop (8 + x.data.toList.length) = (b.drop 2).drop (totB (pre ++ [x])) := by
    rw [totB_snoc, List.drop_drop, hz]
  have hl := h.len
  simp only [List.length_drop] at hle h2
  refine ⟨⟨k - 1, ?_, ?_⟩, ⟨?_, ?_⟩, k2 h.evs⟩
  · rw [h1, fol_go hx ht (by simp only [List.length_drop]; exact h2), hd, hz]
  · rw [totB_snoc]
    simp only [List.length_drop]
    omega
  · show w'.len + (8 + x.size) = _
    rw [k1, totB_snoc]
    omega
  · rw [totB_snoc]
    omega
theorem FoI.end_ {b : List UInt8} {pre : List ByteArray} {w : Wy} (h : FoI b pre w) (hx : firstS ((b.drop 2).drop (totB pre)) = none) : folW b.length wy0 (b.drop 2) = w := by
  obtain ⟨k, h1, -⟩ := h.fol
  rw [h1, fol_none hx]
theorem FoI.halt {b : List UInt8} {pre : List ByteArray} {w : Wy} {x : ByteArray} (h : FoI b pre w) (hx : firstS ((b.drop 2).drop (totB pre)) = some x.data.toList) (ht : takeS w x.data.toList = none) : folW b.length wy0 (b.drop 2) = w := by
  obtain ⟨k, h1, -⟩ := h.fol
  rw [h1, fol_stop hx ht]
end Go.Proofs.YtdmiciblfbkndaaDoor
