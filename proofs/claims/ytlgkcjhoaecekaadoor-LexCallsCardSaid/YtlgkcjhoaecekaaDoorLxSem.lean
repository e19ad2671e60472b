/-
  PLAIN FACTS: bytes as tokens: what stands at a text's head, and the tokens of a text; no program. Own work.
-/
import Derived.WalkKit
namespace Go.Proofs.YtlgkcjhoaecekaaDoor
namespace Lx
set_option linter.unusedVariables false

/-- A token: kind, text, line, column, number. -/
structure Tk where
  k : Int
  t : List UInt8
  l : Int
  c : Int
  n : Int
  deriving DecidableEq, Inhabited
def t0 : Tk := ⟨0, [], 0, 0, 0⟩

def isBl (b : UInt8) : Bool := b == 32 || b == 9 || b == 13
def isDg (b : UInt8) : Bool := decide (48 ≤ b.toNat) && decide (b.toNat ≤ 57)
def isHx (b : UInt8) : Bool := isDg b || (decide (97 ≤ b.toNat) && decide (b.toNat ≤ 102))
def stW (b : UInt8) : Bool := (decide (97 ≤ b.toNat) && decide (b.toNat ≤ 122)) || b == 95
def inW (b : UInt8) : Bool := stW b || isDg b
def stick (b : UInt8) : Bool := inW b || (decide (65 ≤ b.toNat) && decide (b.toNat ≤ 90))
def noNl (b : UInt8) : Bool := b != 10
/-- How many bytes at the head are of one sort. -/
def spn (p : UInt8 → Bool) (s : List UInt8) : Nat := (s.takeWhile p).length
def keyL : List (List UInt8) := [[115, 116, 97, 99, 107], [112, 111, 114, 116], [114, 101, 97, 100], [119, 114, 105, 116, 101], [98, 111, 116, 104], [102, 117, 110, 99], [109, 97, 105, 110], [111, 110], [112, 114, 105, 111], [105, 102], [101, 108, 115, 101], [119, 104, 105, 108, 101], [114, 101, 116, 117, 114, 110], [101, 110, 97, 98, 108, 101], [100, 105, 115, 97, 98, 108, 101], [108, 101, 118, 101, 108], [97, 116, 111, 109, 105, 99], [117, 56], [117, 49, 54], [117, 51, 50], [105, 51, 50]]
def sgnL : List (List UInt8) := [[60, 60], [62, 62], [61, 61], [33, 61], [60, 61], [62, 61], [60], [62], [61], [43], [45], [42], [47], [37], [38], [124], [94], [126], [33], [40], [41], [123], [125], [91], [93], [44], [59]]
def kindW (w : List UInt8) : Int := if keyL.contains w then 2 else 1
def isWd (w : List UInt8) : Bool := match w with | [] => false | b :: _ => stW b && w.all inW
def kindA (w : List UInt8) : Int := if isWd w then kindW w else 0
/-- The first sign with which a text begins. -/
def sgnN (s : List UInt8) : Nat := match sgnL.find? (fun g => g.isPrefixOf s) with | some g => g.length | none => 0
def dig (b : UInt8) : Nat := if isDg b then b.toNat - 48 else b.toNat - 87
/-- The number that digits are. -/
def val (q : Nat) (ds : List UInt8) : Nat := ds.foldl (fun n b => n * q + dig b) 0
/-- A number at the head, behind a prefix: its length and its value. -/
def numT (pre : Nat) (p : UInt8 → Bool) (q : Nat) (s : List UInt8) : Option (Nat × Int) :=
  if spn p (s.drop pre) = 0 then none
  else if 4294967295 < val q ((s.drop pre).take (spn p (s.drop pre))) then none
  else match s.drop (pre + spn p (s.drop pre)) with
    | b :: _ => if stick b then none else some (pre + spn p (s.drop pre), (val q ((s.drop pre).take (spn p (s.drop pre))) : Nat))
    | [] => some (pre + spn p (s.drop pre), (val q ((s.drop pre).take (spn p (s.drop pre))) : Nat))
/-- What may stand at a text's head. -/
inductive Hd
  | fin | nl | bl | cm | wd | hx | dg | sg
  deriving DecidableEq
def hdOf (s : List UInt8) : Hd := match s with
  | [] => .fin
  | b :: _ => if b = 10 then .nl else if isBl b then .bl else if [47, 47].isPrefixOf s then .cm else if stW b then .wd else if [48, 120].isPrefixOf s then .hx else if isDg b then .dg else .sg
/-- The token at the head: kind, length, number. -/
def tokH (h : Hd) (s : List UInt8) : Option (Int × Nat × Int) := match h with
  | .wd => some (kindW (s.take (spn inW s)), spn inW s, 0)
  | .hx => (numT 2 isHx 16 s).map fun x => (3, x.1, x.2)
  | .dg => (numT 0 isDg 10 s).map fun x => (3, x.1, x.2)
  | .sg => if sgnN s = 0 then none else some (4, sgnN s, 0)
  | _ => none
/-- The tokens of a text that stands at a line and a column; or where the first fault is. -/
def lexF : Nat → List UInt8 → Int → Int → Except (Int × Int) (List Tk)
  | 0, _, _, _ => .ok []
  | f + 1, s, l, c => match hdOf s with
    | .fin => .ok []
    | .nl => lexF f (s.drop 1) (l + 1) 1
    | .bl => lexF f (s.drop (spn isBl s)) l (c + spn isBl s)
    | .cm => lexF f (s.drop (spn noNl s)) l (c + spn noNl s)
    | h => match tokH h s with
      | none => .error (l, c)
      | some (k, n, v) => match lexF f (s.drop n) l (c + n) with
        | .ok ts => .ok (⟨k, s.take n, l, c, v⟩ :: ts)
        | .error e => .error e
def lexL (s : List UInt8) : Except (Int × Int) (List Tk) := lexF s.length s 1 1
end Lx
end Go.Proofs.YtlgkcjhoaecekaaDoor
