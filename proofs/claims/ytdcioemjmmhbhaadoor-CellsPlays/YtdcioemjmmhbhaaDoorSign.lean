import Derived.Test.YtdcioemjmmhbhaaDoorBytes
import Derived.Test.YtdcioemjmmhbhaaDoorApp1
namespace Go.Proofs.YtdcioemjmmhbhaaDoor
open Go.RowKit

/-- The text of the mark of the list i. -/
def sgT (i : Nat) : ByteArray := ⟨#[UInt8.ofNat (i % 256), UInt8.ofNat (i / 256 % 256), UInt8.ofNat (i / 65536)]⟩
/-- The mark of the list i at the place j. -/
def sgV (i j : Nat) : V := (9, (j : Int), sgT i)

set_option maxRecDepth 100000 in
set_option maxHeartbeats 1000000 in
theorem sign_any (w : World) (i j : Nat) (hi : i ≤ 1000000) :
    Calls Tryd.prog 42 #[.int .i64 (i : Int), .int .i64 (j : Int)] w fun e w' => e = .returned (.agg #[.int .i64 9, .int .i64 (j : Int), .string (sgT i)]) ∧ Below w.heap.size w w' := by
  have hB0 : ∀ o1 o2 : Obj, Below w.heap.size w ((w.alloc o1).alloc o2) := fun o1 o2 => ((Below.refl _ w).alloc (Nat.le_refl _) _).alloc (by simp) _
  obtain ⟨X, hX⟩ : ∃ X, (w.alloc (.cells #[.int .i64 0, .int .i64 0, .string ⟨#[]⟩] 37)).alloc (.cells #[.int .u8 ((i : Int) % 256), .int .u8 ((i : Int) / 256 % 256), .int .u8 ((i : Int) / 65536)] 5) = X := ⟨_, rfl⟩
  have bX : Below w.heap.size w X := by rw [← hX]; exact hB0 _ _
  have h1 : X.heap[w.heap.size + 1]? = some (.cells #[.int .u8 ((i : Int) % 256), .int .u8 ((i : Int) / 256 % 256), .int .u8 ((i : Int) / 65536)] 5) := by
    rw [← hX]
    have := World.alloc_heap_new (w.alloc (.cells #[.int .i64 0, .int .i64 0, .string ⟨#[]⟩] 37)) (.cells #[.int .u8 ((i : Int) % 256), .int .u8 ((i : Int) / 256 % 256), .int .u8 ((i : Int) / 65536)] 5)
    rw [World.size_alloc] at this
    exact this
  have h0 : X.heap[w.heap.size]? = some (.cells #[.int .i64 0, .int .i64 0, .string ⟨#[]⟩] 37) := by
    rw [← hX, Below.heap_alloc _ _ _ (by simp)]
    exact World.alloc_heap_new w _
  have bk : Blk X w.heap.size 37 3 := ⟨_, h0, by decide⟩
  have TH := bk.there 0 3 (by omega)
  have hcv : (convert 87 9 (.slice (some ⟨w.heap.size + 1, 0, none⟩) 3 3)).run Tryd.prog X = .ok (.string (sgT i)) X := by
    refine run_convert_bytes_back (P := Tryd.prog) X 87 9 5 ⟨w.heap.size + 1, 0, none⟩ 3 [UInt8.ofNat (i % 256), UInt8.ofNat (i / 256 % 256), UInt8.ofNat (i / 65536)] Tryd.underlying87 Tryd.underlying5 Tryd.underlying9 (fun j hj => ?_)
    have hj3 : j < 3 := hj
    have e2 : ((UInt8.ofNat (i / 65536)).toNat : Int) = (i : Int) / 65536 := by simp; omega
    rw [Addr.add_mid]
    have : j = 0 ∨ j = 1 ∨ j = 2 := by omega
    rcases this with rfl | rfl | rfl
    · simp only [World.cell?, h1]
      simp
    · simp only [World.cell?, h1]
      simp
    · simp only [World.cell?, h1]
      simp only [List.getElem_cons_succ, List.getElem_cons_zero, e2]
      rfl
  have HS : Hid (∀ u : ByteArray, Below w.heap.size w (X.setCells w.heap.size 0 (vc (9, (j : Int), u))) ∧ (X.setCells w.heap.size 0 (vc (9, (j : Int), u))).rangeAt w.heap.size 0 (vc (9, (j : Int), u))) := fun u => ⟨bX.trans ((Kp.setCells (F := fun b => b = w.heap.size) (.inl rfl) _ _ (Kp.refl _ X)).below (fun k hk => by omega) bX.size), World.rangeAt_setCells_same X w.heap.size 0 _ TH⟩
  have HTH : Hid (X.there w.heap.size 0 (#[.int .i64 9, .int .i64 (j : Int), .string (sgT i)] : Array Value).size) := TH
  have H1 : Hid ((#[.int .i64 9, .int .i64 (j : Int), .string (sgT i)] : Array Value).all (·.oneCell') = true) := one3 _ _ _
  clear hB0 bX bk TH h0 h1
  go_enter Tryd.func42, Tryd.ntmps42
  go_wp2_with (first
    | (refine wpList_store_mid (by rfl) 37 (.tmp 4) (.tmp 16) (by rfl) w.heap.size 0 #[.int .i64 9, .int .i64 (j : Int), .string (sgT i)] (by rfl) (by rfl) HTH.out size37 H1.out ?_)
    | go_in)
  obtain ⟨hb, hr⟩ := HS.out (sgT i)
  have p0 : (X.setCells w.heap.size 0 [.int .i64 9, .int .i64 (j : Int), .string (sgT i)]).cell? ⟨w.heap.size, 0, none⟩ = some (.int .i64 9) := hr 0 _ rfl
  have p1 : (X.setCells w.heap.size 0 [.int .i64 9, .int .i64 (j : Int), .string (sgT i)]).cell? ⟨w.heap.size, 1, none⟩ = some (.int .i64 (j : Int)) := hr 1 _ rfl
  have p2 : (X.setCells w.heap.size 0 [.int .i64 9, .int .i64 (j : Int), .string (sgT i)]).cell? ⟨w.heap.size, 2, none⟩ = some (.string (sgT i)) := hr 2 _ rfl
  have hb' : Below w.heap.size w (X.setCells w.heap.size 0 [.int .i64 9, .int .i64 (j : Int), .string (sgT i)]) := hb
  clear hb hr HS hcv hX HTH H1
  generalize X.setCells w.heap.size 0 [.int .i64 9, .int .i64 (j : Int), .string (sgT i)] = Y at p0 p1 p2 hb' ⊢
  exact bodyPost_ret (v := .agg #[.int .i64 9, .int .i64 (j : Int), .string (sgT i)]) (by simp [results, Tryd.results42, go_sem, p0, p1, p2, Act.put]) rfl ⟨rfl, hb'⟩
end Go.Proofs.YtdcioemjmmhbhaaDoor
