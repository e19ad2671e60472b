/-
  PLAIN FACTS: two images in memory, one behind the other. Own work.
-/
import Derived.Test.YtaeblnlbelebkaaGreatDoorImKit
namespace Go.Proofs.YtaeblnlbelebkaaGreatDoor
namespace Im
open Go.RowKit Go
open Co (Kp)

theorem bne_no {a b : Int} (h : a = b) : (a != b) = false := by simpa using h
theorem bne_yes {a b : Int} (h : a ≠ b) : (a != b) = true := by simpa using h
/-- A second block behind the first. -/
theorem ptr_two {w : World} {g : Hd} {o : Im} (cs : Array Value) (T : TypeId) (i : ImIn w g o) : Ptr ((w.alloc (.cells cs T)).alloc (.cells #[.slice g.aC o.code.length g.cC, .slice g.aF o.funcs.length g.cF, .slice g.aV o.vecs.length g.cV, .int .i64 o.main, .slice g.aI o.init.length g.cI, .slice g.aP o.ports.length g.cP, .int .i64 o.stack, .slice g.aA o.atoms.length g.cA] 29)) (w.heap.size + 1) g o := by
  have := Ptr.new (i.kp ((Kp.refl w).alloc cs T))
  simpa using this
end Im
end Go.Proofs.YtaeblnlbelebkaaGreatDoor
