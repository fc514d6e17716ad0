/- Plain mathematics for stage 16: errors as trees, their texts, what is found in them, their chain; nothing of the program is walked; no condition. -/
import Derived.Test.YtlnamkplbikcjaaGreatDoorHText
namespace Go.Proofs.YtlnamkplbikcjaaGreatDoor
open Go.RowKit

def I64 (x : Int) : Prop := -9223372036854775808 ≤ x ∧ x ≤ 9223372036854775807
namespace Ft
/-- An error. -/
inductive Er where
  | nil
  | num (n : Int)
  | fault (op h : Int) (e : Er)
  | place (n : Int) (e : Er)
  | pair (a b : Er)
  | odd (s : ByteArray)
  | nF
  | nP
  | nQ

/-- The names of errors. -/
def names : List (Int × List UInt8) := [
  (1, [97, 114, 103]), (2, [114, 97, 110, 103, 101]), (3, [108, 111, 110, 103]), (4, [102, 111, 114, 109]), (10, [111, 118, 101, 114, 102, 108, 111, 119]),
  (20, [104, 97, 110, 100, 108, 101]), (30, [114, 111, 111, 109]), (40, [102, 117, 108, 108]), (50, [110, 111, 110, 101]), (60, [116, 105, 109, 101]),
  (80, [111, 118, 101, 114, 108, 111, 97, 100]), (90, [100, 101, 112, 116, 104]), (91, [114, 111, 111, 116]), (92, [100, 121, 105, 110, 103]), (220, [108, 97, 116, 101]),
  (240, [119, 111, 114, 100]), (250, [108, 105, 110, 101]), (251, [110, 97, 109, 101]), (270, [115, 116, 97, 116, 101]), (280, [115, 99, 114, 105, 112, 116])]
def nN (i : Nat) : Int := (names.getD i (0, [])).1
def nS (i : Nat) : List UInt8 := (names.getD i (0, [])).2
/-- The name of a number. -/
def nameL (n : Int) : List UInt8 := ((names.find? fun x => x.1 == n).map (·.2)).getD []
/-- The number of a name. -/
def findN (l : List UInt8) : Option Int := (names.find? fun x => x.2 == l).map (·.1)
/-- The names of operations. -/
def ops : List (List UInt8) := [[], [99, 114, 101, 97, 116, 101], [114, 101, 115, 105, 122, 101], [100, 101, 108, 101, 116, 101], [116, 97, 115, 107], [117, 110, 116, 97, 115, 107], [106, 111, 98], [116, 105, 99, 107], [110, 111, 100, 101], [115, 104, 111, 119]]
def opL (op : Int) : List UInt8 := if 1 ≤ op ∧ op ≤ 9 then ops.getD op.toNat [] else [111, 112, 32] ++ Lib.itoa op
/-- What is told of a handle. -/
def toldL (h : Int) : List UInt8 := if textL h = [] then 35 :: Lib.itoa h else textL h
def errL (n : Int) : List UInt8 := [101, 114, 114, 111, 114, 32] ++ Lib.itoa n
def nbrL (said : Bool) (n : Int) : List UInt8 := if said = true ∧ nameL n ≠ [] then nameL n else errL n
/-- What a Fault tells ahead of what it wraps. -/
def fltL (op h : Int) : List UInt8 := opL op ++ 32 :: (toldL h ++ [58, 32])
def plcL (n : Int) : List UInt8 := [108, 105, 110, 101, 32] ++ (Lib.itoa n ++ [58, 32])
/-- An error's text. -/
def Er.txt (said : Bool) : Er → List UInt8
  | .nil => []
  | .num n => nbrL said n
  | .fault op h e => fltL op h ++ e.txt said
  | .place n e => plcL n ++ e.txt said
  | .pair a b => a.txt said ++ ([59, 32] ++ b.txt said)
  | .odd s => s.data.toList
  | .nF => []
  | .nP => []
  | .nQ => []
/-- The kinds that errors.As is asked for. -/
inductive Kd where
  | num
  | flt
  | plc
/-- The first one of a kind, as errors.As goes. -/
def Er.fnd (k : Kd) : Er → Option Er
  | .nil => none
  | .num n => match k with | .num => some (.num n) | _ => none
  | .fault op h e => match k with | .flt => some (.fault op h e) | _ => e.fnd k
  | .place n e => match k with | .plc => some (.place n e) | _ => e.fnd k
  | .pair a b => match a.fnd k with | some x => some x | none => b.fnd k
  | .odd _ => none
  | .nF => match k with | .flt => some .nF | _ => none
  | .nP => match k with | .plc => some .nP | _ => none
  | .nQ => none
def Er.why (e : Er) : Int := match e.fnd .num with | some (.num n) => n | _ => 0
def Er.at' (e : Er) : Option (Int × Int) := match e.fnd .flt with | some (.fault op h _) => some (op, h) | _ => Option.none
def Er.line (e : Er) : Option Int := match e.fnd .plc with | some (.place n _) => some n | _ => Option.none
/-- Is the number found? -/
def Er.has (n : Int) : Er → Bool
  | .num m => m == n
  | .fault _ _ e => e.has n
  | .place _ e => e.has n
  | .pair a b => a.has n || b.has n
  | _ => false
/-- What errors.Unwrap gives. -/
def Er.inner : Er → Er
  | .fault _ _ e => e
  | .place _ e => e
  | _ => .nil
/-- The texts of a chain, so many at most. -/
def Er.chain : Nat → Er → List (List UInt8)
  | 0, _ => []
  | _ + 1, .nil => []
  | f + 1, e => e.txt false :: Er.chain f e.inner
/-- How many links it has. -/
def Er.sz : Er → Nat
  | .fault _ _ e => e.sz + 1
  | .place _ e => e.sz + 1
  | .pair a b => a.sz + b.sz + 1
  | _ => 1
theorem Er.sz_pos : ∀ e : Er, 1 ≤ e.sz := by
  intro e
  cases e <;> simp [Er.sz]
/-- Every number in it is an int. -/
def Er.ok : Er → Prop
  | .num n => I64 n
  | .fault op h e => I64 op ∧ I64 h ∧ e.ok
  | .place n e => I64 n ∧ e.ok
  | .pair a b => a.ok ∧ b.ok
  | _ => True
end Ft
end Go.Proofs.YtlnamkplbikcjaaGreatDoor
