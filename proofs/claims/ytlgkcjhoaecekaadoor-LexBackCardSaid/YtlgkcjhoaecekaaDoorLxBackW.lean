/-
  WALKS: the statement LexBack. Own work.
-/
import Derived.Test.YtlgkcjhoaecekaaDoorLxPartsW
import Derived.Test.YtlgkcjhoaecekaaDoorLxBackF
import Derived.Test.YtlgkcjhoaecekaaDoorLxJoinW
namespace Go.Proofs.YtlgkcjhoaecekaaDoor
namespace Lx
open Go.RowKit Go
set_option linter.unusedVariables false

set_option maxHeartbeats 4000000 in
set_option maxRecDepth 100000 in
theorem back_short (s : List UInt8) (w : World) (hE : Env w) (hs : 2000 < (bytesOf s).size ∨ ∃ x y, Lex s 1 1 = .error (x, y)) (hm : (bytesOf s).size ≤ 9223372036854775807) :
    Calls Tryd.prog 5 #[.string (bytesOf s)] w fun e w' => e = .returned (.bool true) ∧ Kp w w' := by
  have q0 := flt_z
  have q1 := flt_ne
  have HE := Lib.hid hE
  clear hE
  by_cases ga : 2000 < (bytesOf s).size
  · have ga' : (2000 : Int) < ((bytesOf s).size : Int) := by omega
    go_enter Tryd.func5, Tryd.ntmps5
    go_wp2_with fail
    refine (lives_any HE.out).mono ?_
    rintro e w1 ⟨rfl, k1⟩
    go_wp2
    go_ret
    exact ⟨rfl, k1⟩
  · obtain ⟨x, y, hlex⟩ := hs.resolve_left ga
    have HXY := Lib.hid (back_err hlex)
    have hx := HXY.out.1
    have hy := HXY.out.2
    have HL := Lib.hid hlex
    have SA := Lib.hid (show s.length ≤ 2000 by rw [← bytesOf_size]; omega)
    have ga' : ((bytesOf s).size : Int) ≤ 2000 := by omega
    clear hlex hs hm ga
    go_enter Tryd.func5, Tryd.ntmps5
    go_wp2_with fail
    refine (lives_any HE.out).mono ?_
    rintro e w1 ⟨rfl, k1⟩
    have K1 := Lib.hid k1
    clear k1
    go_wp2_with fail
    refine (All_q (HE.out.kp K1.out) s (by have := SA.out; omega) [] 11 x y (by rw [HL.out]; rfl) (by rw [HL.out]; rfl) (by rw [HL.out]; rfl) (by rw [HL.out]; rfl)).mono ?_
    rintro e w3 ⟨aoa, capa, rfl, _, k3⟩
    rw [show ([] : List Tk).length = 0 from rfl]
    have K3 := Lib.hid (K1.out.trans k3)
    clear k3
    go_upto_region 6 with (fail)
    generalize hw4 : World.alloc w3 _ = w4
    have A4 := alloc_new_of hw4
    have N4 := A4.2.1
    have c40 := A4.1 0
    have c41 := A4.1 1
    have c42 := A4.1 2
    have z4 := A4.2.2.1
    simp only [List.getElem?_toArray, List.getElem?_cons_succ, List.getElem?_cons_zero] at c40 c41 c42
    have K4 := Lib.hid (K3.out.trans N4)
    clear A4 hw4 N4
    go_wp2
    go_ret
    exact ⟨rfl, K4.out⟩
end Lx
end Go.Proofs.YtlgkcjhoaecekaaDoor
