/-
  WALKS: the kit's Image: two images are the same. Own work.
-/
import Derived.Test.YtaeblnlbelebkaaGreatDoorImPair
import Derived.Laws.StructEq
namespace Go.Proofs.YtaeblnlbelebkaaGreatDoor
namespace Im
open Go.RowKit Go
open Co (Kp ret_int ret_bool ret2_int In in0 IIn Ics Wf)
open Ln (VIn Vcs)
set_option linter.unusedVariables false

set_option maxHeartbeats 8000000 in
set_option maxRecDepth 100000 in
theorem Image_diff {w : World} {h g : Hd} {m o : Im} (hm : ImIn w h m) (ho : ImIn w g o) (hW : ImWf m) (r : Bool) (hr : m = o ↔ r = true) (hd : ¬ (m.code.length = o.code.length ∧ m.funcs.length = o.funcs.length ∧ m.vecs.length = o.vecs.length ∧ m.main = o.main ∧ m.init.length = o.init.length ∧ m.ports.length = o.ports.length ∧ m.stack = o.stack ∧ m.atoms = o.atoms)) :
    Calls Tryz.prog 12 #[h.val m, g.val o] w fun e w' => e = .returned (.bool r) ∧ Kp w w' := by
  have nC := hW.nC
  have nF := hW.nF
  have nV := hW.nV
  have nI := hW.nI
  have nP := hW.nP
  have P1 := (Ptr.new hm).kp ((Kp.refl _).alloc #[.slice g.aC o.code.length g.cC, .slice g.aF o.funcs.length g.cF, .slice g.aV o.vecs.length g.cV, .int .i64 o.main, .slice g.aI o.init.length g.cI, .slice g.aP o.ports.length g.cP, .int .i64 o.stack, .slice g.aA o.atoms.length g.cA] 29)
  have P2 := ptr_two #[.slice h.aC m.code.length h.cC, .slice h.aF m.funcs.length h.cF, .slice h.aV m.vecs.length h.cV, .int .i64 m.main, .slice h.aI m.init.length h.cI, .slice h.aP m.ports.length h.cP, .int .i64 m.stack, .slice h.aA m.atoms.length h.cA] 29 ho
  have K2 := Lib.hid (((Kp.refl w).alloc #[.slice h.aC m.code.length h.cC, .slice h.aF m.funcs.length h.cF, .slice h.aV m.vecs.length h.cV, .int .i64 m.main, .slice h.aI m.init.length h.cI, .slice h.aP m.ports.length h.cP, .int .i64 m.stack, .slice h.aA m.atoms.length h.cA] 29).alloc #[.slice g.aC o.code.length g.cC, .slice g.aF o.funcs.length g.cF, .slice g.aV o.vecs.length g.cV, .int .i64 o.main, .slice g.aI o.init.length g.cI, .slice g.aP o.ports.length g.cP, .int .i64 o.stack, .slice g.aA o.atoms.length g.cA] 29)
  have HR := Lib.hid hr
  have HW := Lib.hid hW
  clear hm ho hr hW
  unfold Hd.val
  go_enter Tryz.func12, Tryz.ntmps12
  go_upto_region 1 with (fail)
  revert P1 P2 K2
  generalize (w.alloc _).alloc _ = w2
  generalize w.heap.size = p
  intro P1 P2 K2
  have c0 := P1.c0
  have d0 := P2.c0
  have c1 := P1.c1
  have d1 := P2.c1
  have c2 := P1.c2
  have d2 := P2.c2
  have c3 := P1.c3
  have d3 := P2.c3
  have c4 := P1.c4
  have d4 := P2.c4
  have c5 := P1.c5
  have d5 := P2.c5
  have c6 := P1.c6
  have d6 := P2.c6
  have c7 := P1.c7
  have d7 := P2.c7
  have zp := P1.size
  have zq := P2.size
  have HP1 := Lib.hid P1
  have HP2 := Lib.hid P2
  clear P1 P2
  have NO : Hid (m ≠ o → r = false) := Lib.hid (fun e => by
    have : ¬ r = true := fun x => e (HR.out.2 x)
    simpa using this)
  by_cases q0 : m.code.length = o.code.length
  case neg =>
    have FIN : r = false := NO.out (fun e => q0 (congrArg (fun z : Im => z.code.length) e))
    subst FIN
    have b0 : ((m.code.length : Int) != (o.code.length : Int)) = true := bne_yes (by omega)
    clear hd q0 nC nF nV nI nP
    go_wp2
    go_ret
    exact ⟨rfl, K2.out⟩
  case pos =>
  have b0 : ((m.code.length : Int) != (o.code.length : Int)) = false := bne_no (by omega)
  by_cases q1 : m.funcs.length = o.funcs.length
  case neg =>
    have FIN : r = false := NO.out (fun e => q1 (congrArg (fun z : Im => z.funcs.length) e))
    subst FIN
    have b1 : ((m.funcs.length : Int) != (o.funcs.length : Int)) = true := bne_yes (by omega)
    clear hd q0 q1 nC nF nV nI nP
    go_wp2
    go_ret
    exact ⟨rfl, K2.out⟩
  case pos =>
  have b1 : ((m.funcs.length : Int) != (o.funcs.length : Int)) = false := bne_no (by omega)
  by_cases q2 : m.vecs.length = o.vecs.length
  case neg =>
    have FIN : r = false := NO.out (fun e => q2 (congrArg (fun z : Im => z.vecs.length) e))
    subst FIN
    have b2 : ((m.vecs.length : Int) != (o.vecs.length : Int)) = true := bne_yes (by omega)
    clear hd q0 q1 q2 nC nF nV nI nP
    go_wp2
    go_ret
    exact ⟨rfl, K2.out⟩
  case pos =>
  have b2 : ((m.vecs.length : Int) != (o.vecs.length : Int)) = false := bne_no (by omega)
  by_cases q3 : m.main = o.main
  case neg =>
    have FIN : r = false := NO.out (fun e => q3 (congrArg (fun z : Im => z.main) e))
    subst FIN
    have b3 : ((m.main : Int) != (o.main : Int)) = true := bne_yes (by omega)
    clear hd q0 q1 q2 q3 nC nF nV nI nP
    go_wp2
    go_ret
    exact ⟨rfl, K2.out⟩
  case pos =>
  have b3 : ((m.main : Int) != (o.main : Int)) = false := bne_no (by omega)
  by_cases q4 : m.init.length = o.init.length
  case neg =>
    have FIN : r = false := NO.out (fun e => q4 (congrArg (fun z : Im => z.init.length) e))
    subst FIN
    have b4 : ((m.init.length : Int) != (o.init.length : Int)) = true := bne_yes (by omega)
    clear hd q0 q1 q2 q3 q4 nC nF nV nI nP
    go_wp2
    go_ret
    exact ⟨rfl, K2.out⟩
  case pos =>
  have b4 : ((m.init.length : Int) != (o.init.length : Int)) = false := bne_no (by omega)
  by_cases q5 : m.ports.length = o.ports.length
  case neg =>
    have FIN : r = false := NO.out (fun e => q5 (congrArg (fun z : Im => z.ports.length) e))
    subst FIN
    have b5 : ((m.ports.length : Int) != (o.ports.length : Int)) = true := bne_yes (by omega)
    clear hd q0 q1 q2 q3 q4 q5 nC nF nV nI nP
    go_wp2
    go_ret
    exact ⟨rfl, K2.out⟩
  case pos =>
  have b5 : ((m.ports.length : Int) != (o.ports.length : Int)) = false := bne_no (by omega)
  by_cases q6 : m.stack = o.stack
  case neg =>
    have FIN : r = false := NO.out (fun e => q6 (congrArg (fun z : Im => z.stack) e))
    subst FIN
    have b6 : ((m.stack : Int) != (o.stack : Int)) = true := bne_yes (by omega)
    clear hd q0 q1 q2 q3 q4 q5 q6 nC nF nV nI nP
    go_wp2
    go_ret
    exact ⟨rfl, K2.out⟩
  case pos =>
  have b6 : ((m.stack : Int) != (o.stack : Int)) = false := bne_no (by omega)
  by_cases qA : m.atoms = o.atoms
  case neg =>
    have FIN : r = false := NO.out (fun e => qA (congrArg Im.atoms e))
    subst FIN
    have HL := Lib.hid (Lists_any h.aA g.aA h.cA g.cA m.atoms o.atoms w2 HP1.out.in'.atoms HP2.out.in'.atoms HW.out.nA HW.out.nL false (by simpa using qA))
    clear hd qA q0 q1 q2 q3 q4 q5 q6 nC nF nV nI nP
    go_wp2_with (go_at_call 37; refine HL.out.mono ?_; rintro e w3 ⟨rfl, k3⟩)
    go_ret
    exact ⟨rfl, K2.out.trans k3.kp⟩
  case pos => exact absurd ⟨q0, q1, q2, q3, q4, q5, q6, qA⟩ hd
end Im
end Go.Proofs.YtaeblnlbelebkaaGreatDoor
