/-
  WALKS: package ast: is one statement what its kind is: the answer. Own work.
-/
import Derived.Test.YtenlikjfpniilaaAsFits
namespace Go.Proofs.Ytenlikjfpniilaa
namespace As
open Go.RowKit Go Rg Go.Shelf
set_option linter.unusedVariables false

/-- What a statement has beside its parts is what its kind has: lengths as numbers, ek: the kind of its first expression, an: its Names are names. -/
def fB (k t n : Int) (nm : List UInt8) (a i e h l ek : Int) (an : Bool) : Bool :=
  if k = 1 then decide (n = 0 ∧ a = 0 ∧ i = 0 ∧ e = 1 ∧ h = 0 ∧ l = 0) && decide (Lx.kindA nm = 1) && decide (1 ≤ t ∧ t ≤ 4)
  else if k = 2 then decide (t = 0 ∧ n = 0 ∧ a = 0 ∧ e = 1 ∧ h = 0 ∧ l = 0) && decide (Lx.kindA nm = 1) && decide (i ≤ 1)
  else if k = 3 then decide (t = 0 ∧ n = 0 ∧ nm = [] ∧ a = 0 ∧ i = 0 ∧ e = 1 ∧ h = 0 ∧ l = 0) && decide (ek = 4)
  else if k = 4 then decide (t = 0 ∧ n = 0 ∧ nm = [] ∧ a = 0 ∧ i = 0 ∧ e = 1)
  else if k = 5 then decide (t = 0 ∧ n = 0 ∧ nm = [] ∧ a = 0 ∧ i = 0 ∧ e = 1 ∧ l = 0)
  else if k = 6 then decide (t = 0 ∧ n = 0 ∧ nm = [] ∧ a = 0 ∧ i = 0 ∧ e = 1 ∧ h = 0 ∧ l = 0)
  else if k = 7 ∨ k = 8 then decide (t = 0 ∧ nm = [] ∧ a = 0 ∧ i = 0 ∧ e = 0 ∧ h = 0 ∧ l = 0) && decide (0 ≤ n ∧ n < 32)
  else if k = 9 then decide (t = 0 ∧ nm = [] ∧ a = 0 ∧ i = 0 ∧ e = 0 ∧ h = 0 ∧ l = 0) && decide (0 ≤ n ∧ n ≤ 15)
  else if k = 10 then decide (t = 0 ∧ n = 0 ∧ nm = [] ∧ i = 0 ∧ e = 0 ∧ l = 0) && decide (0 < a) && an
  else false
end As
end Go.Proofs.Ytenlikjfpniilaa
