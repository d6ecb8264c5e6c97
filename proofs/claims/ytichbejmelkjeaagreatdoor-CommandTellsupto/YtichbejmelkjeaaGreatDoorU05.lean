import Derived.Lib.ParseIntB
import Derived.Lib.Bytealg
import Derived.Lib.Strings
import Derived.Test.YtichbejmelkjeaaGreatDoorU04
namespace Go.Proofs.YtichbejmelkjeaaGreatDoor.Lx
open Go.RowKit

/-- A token without its place: its kind, how many bytes it has, its text, its number. -/
structure Tk where
  kind : Nat
  len : Nat
  text : List UInt8
  int : Int

abbrev TkR := Nat ⊕ Tk

def tkCells (k : Nat) (x : Tk) : List Value := [.int .i64 (x.kind : Int), .int .i64 (k : Int), .int .i64 ((k : Int) + (x.len : Int)), .string ⟨x.text.toArray⟩, .int .i64 x.int]
def noCells : List Value := [.int .i64 0, .int .i64 0, .int .i64 0, .string ⟨#[]⟩, .int .i64 0]
def resV (k : Nat) : TkR → Value
  | .inl e => .tuple #[.agg noCells.toArray, .int .i64 (e : Int)]
  | .inr x => .tuple #[.agg (tkCells k x).toArray, .int .i64 0]

def wordS (l : List UInt8) : TkR :=
  let W := l.takeWhile innerB
  if kw ⟨W.toArray⟩ = true then .inr ⟨4, W.length, W, 0⟩ else if 24 < W.length then .inl 23 else .inr ⟨1, W.length, W, 0⟩

def numS (l : List UInt8) : TkR :=
  let D := l.takeWhile digitB
  if (1 < D.length ∧ D.head? = some 48) ∨ 19 < D.length then .inl 21
  else if (l.drop D.length).head?.any innerB = true then .inl 21
  else match Lib.parseIntB 64 D with
    | .ok v => .inr ⟨2, D.length, [], v⟩
    | _ => .inl 21

/-- The piece that stands first: the byte that it says, and its length; 0: none. -/
def pcS : List UInt8 → UInt8 × Nat
  | [] => (0, 0)
  | c :: r =>
    if c ≠ 92 then (if plainB c = true then (c, 1) else (0, 0))
    else match r with
      | [] => (0, 0)
      | d :: r =>
        if d = 110 then (10, 2)
        else if d = 34 ∨ d = 92 then (d, 2)
        else if d = 120 then
          match r with
          | a :: b :: _ => if 0 ≤ Lib.indexByte hexs.data.toList a ∧ 0 ≤ Lib.indexByte hexs.data.toList b then (UInt8.ofNat (16 * (Lib.indexByte hexs.data.toList a).toNat + (Lib.indexByte hexs.data.toList b).toNat), 4) else (0, 0)
          | _ => (0, 0)
        else (0, 0)

/-- What stands behind the opening quote; n: the bytes passed; f: how often a piece may be taken. -/
def txtS : Nat → Nat → List UInt8 → List UInt8 → TkR
  | 0, _, _, _ => .inl 22
  | _ + 1, _, _, [] => .inl 22
  | f + 1, n, v, c :: r =>
    if c = 34 then .inr ⟨3, n + 1, v, 0⟩
    else if (pcS (c :: r)).2 = 0 ∨ v.length = 200 then .inl 22
    else txtS f (n + (pcS (c :: r)).2) (v ++ [(pcS (c :: r)).1]) ((c :: r).drop (pcS (c :: r)).2)

/-- The signs, the longer ones first. -/
def sgs : List ByteArray := [⟨#[61, 61]⟩, ⟨#[33, 61]⟩, ⟨#[60, 61]⟩, ⟨#[62, 61]⟩, ⟨#[38, 38]⟩, ⟨#[124, 124]⟩, ⟨#[40]⟩, ⟨#[41]⟩, ⟨#[123]⟩, ⟨#[125]⟩, ⟨#[91]⟩, ⟨#[93]⟩, ⟨#[44]⟩, ⟨#[59]⟩, ⟨#[58]⟩, ⟨#[61]⟩, ⟨#[60]⟩, ⟨#[62]⟩, ⟨#[43]⟩, ⟨#[45]⟩, ⟨#[42]⟩, ⟨#[47]⟩, ⟨#[37]⟩, ⟨#[33]⟩, ⟨#[64]⟩]
def signS (l : List UInt8) : TkR :=
  match sgs.find? (fun s => s.data.toList.isPrefixOf l) with
  | some s => .inr ⟨5, s.size, s.data.toList, 0⟩
  | none => .inl 20

def tokS : List UInt8 → TkR
  | [] => .inl 20
  | c :: r => if letterB c = true then wordS (c :: r) else if digitB c = true then numS (c :: r) else if c = 34 then txtS (r.length + 1) 1 [] r else signS (c :: r)

/-- How far a comment goes. -/
def cmtS (l : List UInt8) : Nat := (l.takeWhile fun c => c != 10).length

abbrev Scanned := (Nat × Nat) ⊕ List (Nat × Tk)

/-- All tokens from an offset on, the end's last. -/
def scanS : Nat → Nat → List UInt8 → Scanned
  | 0, k, _ => .inl (20, k)
  | _ + 1, k, [] => .inr [(k, ⟨0, 0, [], 0⟩)]
  | f + 1, k, c :: r =>
    if blankB c = true then scanS f (k + 1) r
    else if c = 35 then scanS f (k + cmtS (c :: r)) ((c :: r).drop (cmtS (c :: r)))
    else match tokS (c :: r) with
      | .inl e => .inl (e, k)
      | .inr x => match scanS f (k + x.len) ((c :: r).drop x.len) with
        | .inl p => .inl p
        | .inr l => .inr ((k, x) :: l)

/-! Runs. -/
theorem tw_step (p : UInt8 → Bool) (L : List UInt8) (k j : Nat) (hkj : k ≤ j) (hj : j < L.length) (hp : p L[j] = true)
    (h : (L.drop k).takeWhile p = (L.drop k).take (j - k) ++ (L.drop j).takeWhile p) : (L.drop k).takeWhile p = (L.drop k).take (j + 1 - k) ++ (L.drop (j + 1)).takeWhile p := by
  rw [h, List.drop_eq_getElem_cons hj, List.takeWhile_cons, if_pos hp, show j + 1 - k = (j - k) + 1 from by omega, List.take_succ_eq_append_getElem (by rw [List.length_drop]; omega), List.append_assoc]
  congr 1
  rw [List.getElem_drop]
  simp [show k + (j - k) = j from by omega]
theorem tw_stop (p : UInt8 → Bool) (L : List UInt8) (k j : Nat) (hj : (h : j < L.length) → p L[j] = false) (h : (L.drop k).takeWhile p = (L.drop k).take (j - k) ++ (L.drop j).takeWhile p) : (L.drop k).takeWhile p = (L.drop k).take (j - k) := by
  have e : (L.drop j).takeWhile p = [] := by
    by_cases hlt : j < L.length
    · rw [List.drop_eq_getElem_cons hlt, List.takeWhile_cons, if_neg (by rw [hj hlt]; simp)]
    · rw [List.drop_eq_nil_of_le (by omega)]; rfl
  rw [e, List.append_nil] at h
  exact h
end Go.Proofs.YtichbejmelkjeaaGreatDoor.Lx
