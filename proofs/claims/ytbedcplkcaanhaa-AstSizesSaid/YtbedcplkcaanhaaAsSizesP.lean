/-
  FACTS for the law AstSizes: what the operations of its reading regions leave behind. No walk. Written by gen_assizes.py. Own work.
-/
import Derived.Test.YtbedcplkcaanhaaAsSizesR
namespace Go.Proofs.Ytbedcplkcaanhaa
namespace As
open Go.RowKit Go Rg Go.Shelf
set_option linter.unusedVariables false

def P9 (la lb : List St) (da db m dd : Int) : Nat → Value → World → Prop
  | 0, v, w => PrV la v w
  | 1, v, _ => v = .int .i64 da
  | 2, v, w => PrV lb v w
  | 3, v, _ => v = .int .i64 db
  | 4, v, _ => v = .int .i64 m
  | 5, v, _ => v = .int .i64 dd
  | 6, v, _ => v = .int .i64 dd
  | _, _, _ => True
theorem P9.keep {la lb : List St} {da db m dd : Int} {j : Nat} {u : Value} {w w' : World} (k : Below w.heap.size w w') (h : P9 la lb da db m dd j u w) : P9 la lb da db m dd j u w' := by
  match j, h with
  | 0, h => exact PrV.keep h k
  | 1, h => exact h
  | 2, h => exact PrV.keep h k
  | 3, h => exact h
  | 4, h => exact h
  | 5, h => exact h
  | 6, h => exact h
  | n + 7, h => exact h
def P10 (la lb lc : List St) (gv : Value) (za zb zc zs dc dd d1 ck : Int) (bk : Bool) : Nat → Value → World → Prop
  | 0, v, w => PrV lc v w
  | 1, v, _ => v = .int .i64 zc
  | 2, v, w => PrV la v w
  | 3, v, _ => v = .int .i64 za
  | 4, v, w => PrV lb v w
  | 5, v, _ => v = .int .i64 zb
  | 6, v, _ => v = .int .i64 zs
  | 7, v, _ => v = .bool false
  | 8, v, _ => v = .bool false
  | 9, v, w => PrV lc v w
  | 10, v, _ => v = .int .i64 dc
  | 11, v, _ => v = .int .i64 dd
  | 12, v, _ => v = .bool false
  | 13, v, _ => v = .bool false
  | 14, v, _ => v = .bool false
  | 15, v, _ => v = gv
  | 16, v, _ => v = .int .i64 ck
  | 17, v, _ => v = .bool bk
  | 18, v, _ => v = .int .i64 dd
  | 19, v, _ => v = .int .i64 d1
  | 20, v, _ => v = .bool bk
  | 21, v, _ => v = .bool false
  | 22, v, _ => v = .bool false
  | _, _, _ => True
theorem P10.keep {la lb lc : List St} {gv : Value} {za zb zc zs dc dd d1 ck : Int} {bk : Bool} {j : Nat} {u : Value} {w w' : World} (k : Below w.heap.size w w') (h : P10 la lb lc gv za zb zc zs dc dd d1 ck bk j u w) : P10 la lb lc gv za zb zc zs dc dd d1 ck bk j u w' := by
  match j, h with
  | 0, h => exact PrV.keep h k
  | 1, h => exact h
  | 2, h => exact PrV.keep h k
  | 3, h => exact h
  | 4, h => exact PrV.keep h k
  | 5, h => exact h
  | 6, h => exact h
  | 7, h => exact h
  | 8, h => exact h
  | 9, h => exact PrV.keep h k
  | 10, h => exact h
  | 11, h => exact h
  | 12, h => exact h
  | 13, h => exact h
  | 14, h => exact h
  | 15, h => exact h
  | 16, h => exact h
  | 17, h => exact h
  | 18, h => exact h
  | 19, h => exact h
  | 20, h => exact h
  | 21, h => exact h
  | 22, h => exact h
  | n + 23, h => exact h
def P15 (la lx ly lz : List St) (za zx zy zz z3 zt z2 da dx dy dz d1 dm dn : Int) : Nat → Value → World → Prop
  | 0, v, w => PrV ly v w
  | 1, v, _ => v = .int .i64 zy
  | 2, v, w => PrV lx v w
  | 3, v, _ => v = .int .i64 zx
  | 4, v, _ => v = .int .i64 z3
  | 5, v, w => PrV la v w
  | 6, v, _ => v = .int .i64 za
  | 7, v, _ => v = .int .i64 zt
  | 8, v, _ => v = .bool true
  | 9, v, _ => v = .bool true
  | 10, v, w => PrV ly v w
  | 11, v, _ => v = .int .i64 dy
  | 12, v, w => PrV lx v w
  | 13, v, _ => v = .int .i64 dx
  | 14, v, w => PrV la v w
  | 15, v, _ => v = .int .i64 da
  | 16, v, _ => v = .int .i64 d1
  | 17, v, _ => v = .int .i64 dm
  | 18, v, _ => v = .int .i64 dn
  | 19, v, _ => v = .bool true
  | 20, v, _ => v = .bool true
  | 21, v, _ => v = .bool true
  | 22, v, w => PrV lz v w
  | 23, v, _ => v = .int .i64 zz
  | 24, v, w => PrV lx v w
  | 25, v, _ => v = .int .i64 zx
  | 26, v, _ => v = .int .i64 z2
  | 27, v, _ => v = .bool true
  | 28, v, _ => v = .bool true
  | 29, v, _ => v = .bool true
  | 30, v, w => PrV lz v w
  | 31, v, _ => v = .int .i64 dz
  | 32, v, w => PrV lx v w
  | 33, v, _ => v = .int .i64 dx
  | 34, v, _ => v = .bool true
  | 35, v, _ => v = .bool true
  | 36, v, _ => v = .bool true
  | _, _, _ => True
theorem P15.keep {la lx ly lz : List St} {za zx zy zz z3 zt z2 da dx dy dz d1 dm dn : Int} {j : Nat} {u : Value} {w w' : World} (k : Below w.heap.size w w') (h : P15 la lx ly lz za zx zy zz z3 zt z2 da dx dy dz d1 dm dn j u w) : P15 la lx ly lz za zx zy zz z3 zt z2 da dx dy dz d1 dm dn j u w' := by
  match j, h with
  | 0, h => exact PrV.keep h k
  | 1, h => exact h
  | 2, h => exact PrV.keep h k
  | 3, h => exact h
  | 4, h => exact h
  | 5, h => exact PrV.keep h k
  | 6, h => exact h
  | 7, h => exact h
  | 8, h => exact h
  | 9, h => exact h
  | 10, h => exact PrV.keep h k
  | 11, h => exact h
  | 12, h => exact PrV.keep h k
  | 13, h => exact h
  | 14, h => exact PrV.keep h k
  | 15, h => exact h
  | 16, h => exact h
  | 17, h => exact h
  | 18, h => exact h
  | 19, h => exact h
  | 20, h => exact h
  | 21, h => exact h
  | 22, h => exact PrV.keep h k
  | 23, h => exact h
  | 24, h => exact PrV.keep h k
  | 25, h => exact h
  | 26, h => exact h
  | 27, h => exact h
  | 28, h => exact h
  | 29, h => exact h
  | 30, h => exact PrV.keep h k
  | 31, h => exact h
  | 32, h => exact PrV.keep h k
  | 33, h => exact h
  | 34, h => exact h
  | 35, h => exact h
  | 36, h => exact h
  | n + 37, h => exact h
end As
end Go.Proofs.Ytbedcplkcaanhaa
