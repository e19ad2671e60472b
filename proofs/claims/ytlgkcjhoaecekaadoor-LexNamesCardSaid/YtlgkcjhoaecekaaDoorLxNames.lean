/-
  WALKS: the statement LexNames. Own work.
-/
import Derived.Test.YtlgkcjhoaecekaaDoorLxJoinW
namespace Go.Proofs.YtlgkcjhoaecekaaDoor
namespace Lx
open Go.RowKit Go
set_option linter.unusedVariables false

def exD : List Tk := [⟨2, [117, 56], 1, 1, 0⟩, ⟨1, [97, 49], 1, 4, 0⟩, ⟨1, [105, 102, 48, 120, 102, 102], 2, 2, 0⟩]
theorem ex_d : Lex [117, 56, 32, 97, 49, 32, 47, 47, 32, 98, 10, 9, 105, 102, 48, 120, 102, 102] 1 1 = .ok exD := by rfl
theorem ex_e : Lex [97, 10, 32, 35] 1 1 = .error (2, 2) := by rfl
theorem ex_f : posL ([97, 98, 10, 99].take (clampN 4 3)) = (2, 1) := by decide +kernel
theorem ex_j : joinL (exD.map (·.t)) = [117, 56, 32, 97, 49, 32, 105, 102, 48, 120, 102, 102] := by decide +kernel
set_option maxHeartbeats 4000000 in
set_option maxRecDepth 100000 in
theorem names_walk (w : World) (hE : Env w) : Calls Tryd.prog 3 #[] w fun e w' => e = .returned (.bool true) ∧ Kp w w' := by
  have q1 : ∀ W, Sem.run Tryd.prog (binOp .eql 25 (.agg #[.int .i64 0, .int .i64 0, .int .i64 0]) (.agg #[.int .i64 0, .int .i64 0, .int .i64 0])) W = .ok (.bool true) W := fun _ => by kernel_rfl
  have q2 : ∀ W, Sem.run Tryd.prog (binOp .eql 25 (.agg #[.int .i64 11, .int .i64 2, .int .i64 2]) (.agg #[.int .i64 11, .int .i64 2, .int .i64 2])) W = .ok (.bool true) W := fun _ => by kernel_rfl
  have HE := Lib.hid hE
  clear hE
  go_enter Tryd.func3, Tryd.ntmps3
  go_wp2_with fail
  refine (All_q HE.out [117, 56, 32, 97, 49, 32, 47, 47, 32, 98, 10, 9, 105, 102, 48, 120, 102, 102] (by decide) exD 0 0 0 (by rw [ex_d]; rfl) (by rw [ex_d]; rfl) (by rw [ex_d]; rfl) (by rw [ex_d]; rfl)).mono ?_
  rintro e w1 ⟨ao, cap, rfl, hT, k1⟩
  rw [show exD.length = 3 from rfl]
  have K1 := Lib.hid k1
  have HT := Lib.hid hT
  clear k1 hT
  go_upto_region 2 with (fail)
  generalize hw2 : World.alloc w1 _ = w2
  have A2 := alloc_new_of hw2
  have N2 := A2.2.1
  have c20 := A2.1 0
  have c21 := A2.1 1
  have c22 := A2.1 2
  have z2 := A2.2.2.1
  simp only [List.getElem?_toArray, List.getElem?_cons_succ, List.getElem?_cons_zero] at c20 c21 c22
  obtain ⟨P2, hP2⟩ : ∃ P, w1.heap.size = P := ⟨_, rfl⟩
  rw [hP2] at c20 c21 c22 z2 ⊢
  clear A2 hw2 hP2
  have K2 := Lib.hid (K1.out.trans N2)
  have HT2 := Lib.hid (HT.out.kp N2)
  clear N2
  go_wp2_with fail
  refine (All_q (HE.out.kp K2.out) [97, 10, 32, 35] (by decide) [] 11 2 2 (by rw [ex_e]; rfl) (by rw [ex_e]; rfl) (by rw [ex_e]; rfl) (by rw [ex_e]; rfl)).mono ?_
  rintro e w3 ⟨ao3, cap3, rfl, _, k3⟩
  have c20 := (k3.cells P2 0 z2).trans c20
  have c21 := (k3.cells P2 1 z2).trans c21
  have c22 := (k3.cells P2 2 z2).trans c22
  have z2 := Nat.lt_of_lt_of_le z2 k3.size
  have K3 := Lib.hid (K2.out.trans k3)
  have HT3 := Lib.hid (HT2.out.kp k3)
  clear k3
  go_upto_region 3 with (fail)
  generalize hw4 : World.alloc w3 _ = w4
  have A4 := alloc_new_of hw4
  have N4 := A4.2.1
  have c40 := A4.1 0
  have c41 := A4.1 1
  have c42 := A4.1 2
  have z4 := A4.2.2.1
  simp only [List.getElem?_toArray, List.getElem?_cons_succ, List.getElem?_cons_zero] at c40 c41 c42
  obtain ⟨P4, hP4⟩ : ∃ P, w3.heap.size = P := ⟨_, rfl⟩
  rw [hP4] at c40 c41 c42 z4 ⊢
  clear A4 hw4 hP4
  have c20 := (N4.cells P2 0 z2).trans c20
  have c21 := (N4.cells P2 1 z2).trans c21
  have c22 := (N4.cells P2 2 z2).trans c22
  have z2 := Nat.lt_of_lt_of_le z2 N4.size
  have K4 := Lib.hid (K3.out.trans N4)
  have HT4 := Lib.hid (HT3.out.kp N4)
  clear N4
  obtain ⟨b, off, hao, _⟩ := TIn.at HT4.out (i := 2) (by decide)
  subst hao
  go_wp2_with fail
  refine (Line_any [97, 98, 10, 99] (by decide) 3 (by decide) (by decide) _ 2 1 ex_f).mono ?_
  rintro e w5 ⟨rfl, rfl⟩
  go_wp2_with fail
  refine (lives_any (HE.out.kp K4.out)).mono ?_
  rintro e w6 ⟨rfl, k6⟩
  have c20 := (k6.cells P2 0 z2).trans c20
  have c21 := (k6.cells P2 1 z2).trans c21
  have c22 := (k6.cells P2 2 z2).trans c22
  have z2 := Nat.lt_of_lt_of_le z2 k6.size
  have c40 := (k6.cells P4 0 z4).trans c40
  have c41 := (k6.cells P4 1 z4).trans c41
  have c42 := (k6.cells P4 2 z4).trans c42
  have z4 := Nat.lt_of_lt_of_le z4 k6.size
  have K6 := Lib.hid (K4.out.trans k6)
  have HT6 := Lib.hid (HT4.out.kp k6)
  clear k6
  obtain ⟨b', off', hao', hcs⟩ := TIn.at HT6.out (i := 2) (by decide)
  simp only [Option.some.injEq, Addr.mk.injEq, and_true] at hao'
  obtain ⟨rfl, rfl⟩ := hao'
  have y0 : w6.cell? ⟨b, off, none⟩ = some (.int .i64 2) := hcs.k 0 (by decide)
  have y1 : w6.cell? ⟨b, off + 5, none⟩ = some (.int .i64 1) := hcs.k 1 (by decide)
  have y2 : w6.cell? ⟨b, off + 11, none⟩ = some (.string ⟨#[105, 102, 48, 120, 102, 102]⟩) := hcs.t 2 (by decide)
  have y3 : w6.cell? ⟨b, off + 10 + 1, none⟩ = some (.string ⟨#[105, 102, 48, 120, 102, 102]⟩) := hcs.t 2 (by decide)
  have y4 : w6.cell? ⟨b, off + 12, none⟩ = some (.int .i64 2) := hcs.l' 2 (by decide)
  have y5 : w6.cell? ⟨b, off + 10 + 2, none⟩ = some (.int .i64 2) := hcs.l' 2 (by decide)
  have y6 : w6.cell? ⟨b, off + 13, none⟩ = some (.int .i64 2) := hcs.c 2 (by decide)
  have y7 : w6.cell? ⟨b, off + 10 + 3, none⟩ = some (.int .i64 2) := hcs.c 2 (by decide)
  clear hcs
  go_wp2_with fail
  refine (Kind_any [119, 104, 105, 108, 101] (by decide) _ 2 (by decide +kernel)).mono ?_
  rintro e w7 ⟨rfl, k7⟩
  have K7 := Lib.hid (K6.out.trans k7)
  have HT7 := Lib.hid (HT6.out.kp k7)
  clear k7 y0 y1 y2 y3 y4 y5 y6 y7
  go_wp2_with fail
  refine (Kind_any [57] (by decide) _ 0 (by decide +kernel)).mono ?_
  rintro e w8 ⟨rfl, k8⟩
  have K8 := Lib.hid (K7.out.trans k8)
  have HT8 := Lib.hid (HT7.out.kp k8)
  clear k8
  go_wp2_with fail
  refine (Join_any (l := exD) HT8.out (by decide) [117, 56, 32, 97, 49, 32, 105, 102, 48, 120, 102, 102] ex_j (by decide)).mono ?_
  rintro e w9 ⟨rfl, k9⟩
  have hq : (bytesOf [117, 56, 32, 97, 49, 32, 105, 102, 48, 120, 102, 102] == ⟨#[117, 56, 32, 97, 49, 32, 105, 102, 48, 120, 102, 102]⟩) = true := by decide +kernel
  have bt := bytesOf_toList [117, 56, 32, 97, 49, 32, 105, 102, 48, 120, 102, 102]
  go_wp2
  go_ret
  exact ⟨rfl, K8.out.trans k9⟩
end Lx
end Go.Proofs.YtlgkcjhoaecekaaDoor
