/-
  WALKS: the chapter's examples. Own work.
-/
import Derived.Test.YtlgkcjhoaecekaaDoorLxKit
namespace Go.Proofs.YtlgkcjhoaecekaaDoor
namespace Lx
open Go.RowKit Go
set_option linter.unusedVariables false

def exA : List Tk := [⟨1, [120], 1, 1, 0⟩, ⟨4, [60, 60], 1, 2, 0⟩, ⟨4, [61], 1, 4, 0⟩, ⟨3, [50], 1, 5, 2⟩]
theorem ex_a : Lex [120, 60, 60, 61, 50] 1 1 = .ok exA := by rfl
theorem ex_b : Lex [48, 120, 49, 71] 1 1 = .error (1, 1) := by rfl
theorem ex_c : Lex [52, 50, 57, 52, 57, 54, 55, 50, 57, 54] 1 1 = .error (1, 1) := by rfl
theorem sin_new {w w' : World} {T : TypeId} {l : List (List UInt8)} (k : Kp (w.alloc (.cells (l.map fun x => Value.string (bytesOf x)).toArray T)) w') : SIn w' (some ⟨w.heap.size, 0, none⟩) l := by
  by_cases h : l.length = 0
  · exact .inl h
  · refine .inr ⟨w.heap.size, 0, rfl, Nat.lt_of_lt_of_le (by simp) k.size, fun i hi => ?_⟩
    rw [new_alloc k, Nat.zero_add]
    rw [List.getElem?_toArray, List.getElem?_map, getD_some (d := []) hi]
    rfl
set_option maxHeartbeats 4000000 in
set_option maxRecDepth 100000 in
theorem lives_any {w : World} (hE : Env w) : Calls Tryd.prog 10 #[] w fun e w' => e = .returned (.bool true) ∧ Kp w w' := by
  have q1 : ∀ W, Sem.run Tryd.prog (binOp .eql 25 (.agg #[.int .i64 0, .int .i64 0, .int .i64 0]) (.agg #[.int .i64 0, .int .i64 0, .int .i64 0])) W = .ok (.bool true) W := fun _ => by kernel_rfl
  have q2 : ∀ W, Sem.run Tryd.prog (binOp .eql 25 (.agg #[.int .i64 11, .int .i64 1, .int .i64 1]) (.agg #[.int .i64 11, .int .i64 1, .int .i64 1])) W = .ok (.bool true) W := fun _ => by kernel_rfl
  have HE := Lib.hid hE
  clear hE
  go_enter Tryd.func10, Tryd.ntmps10
  go_wp2_with fail
  refine (All_q HE.out [120, 60, 60, 61, 50] (by decide) exA 0 0 0 (by rw [ex_a]; rfl) (by rw [ex_a]; rfl) (by rw [ex_a]; rfl) (by rw [ex_a]; rfl)).mono ?_
  rintro e w1 ⟨ao, cap, rfl, hT, k1⟩
  rw [show exA.length = 4 from rfl]
  have K1 := Lib.hid k1
  have HT := Lib.hid hT
  clear k1 hT
  go_upto_region 2 with (fail)
  generalize hw2 : World.alloc w1 _ = w2
  have A2 := alloc_new_of hw2
  have N2 := A2.2.1
  have c20 := A2.1 0
  have c21 := A2.1 1
  have c22 := A2.1 2
  have z2 := A2.2.2.1
  simp only [List.getElem?_toArray, List.getElem?_cons_succ, List.getElem?_cons_zero] at c20 c21 c22
  obtain ⟨P2, hP2⟩ : ∃ P, w1.heap.size = P := ⟨_, rfl⟩
  rw [hP2] at c20 c21 c22 z2 ⊢
  clear A2 hw2 hP2
  have K2 := Lib.hid (K1.out.trans N2)
  have HT2 := Lib.hid (HT.out.kp N2)
  clear N2
  go_wp2_with fail
  refine (All_q (HE.out.kp K2.out) [48, 120, 49, 71] (by decide) [] 11 1 1 (by rw [ex_b]; rfl) (by rw [ex_b]; rfl) (by rw [ex_b]; rfl) (by rw [ex_b]; rfl)).mono ?_
  rintro e w3 ⟨ao3, cap3, rfl, _, k3⟩
  have c20 := (k3.cells P2 0 z2).trans c20
  have c21 := (k3.cells P2 1 z2).trans c21
  have c22 := (k3.cells P2 2 z2).trans c22
  have z2 := Nat.lt_of_lt_of_le z2 k3.size
  have K3 := Lib.hid (K2.out.trans k3)
  have HT3 := Lib.hid (HT2.out.kp k3)
  clear k3
  go_upto_region 3 with (fail)
  generalize hw4 : World.alloc w3 _ = w4
  have A4 := alloc_new_of hw4
  have N4 := A4.2.1
  have c40 := A4.1 0
  have c41 := A4.1 1
  have c42 := A4.1 2
  have z4 := A4.2.2.1
  simp only [List.getElem?_toArray, List.getElem?_cons_succ, List.getElem?_cons_zero] at c40 c41 c42
  obtain ⟨P4, hP4⟩ : ∃ P, w3.heap.size = P := ⟨_, rfl⟩
  rw [hP4] at c40 c41 c42 z4 ⊢
  clear A4 hw4 hP4
  have c20 := (N4.cells P2 0 z2).trans c20
  have c21 := (N4.cells P2 1 z2).trans c21
  have c22 := (N4.cells P2 2 z2).trans c22
  have z2 := Nat.lt_of_lt_of_le z2 N4.size
  have K4 := Lib.hid (K3.out.trans N4)
  have HT4 := Lib.hid (HT3.out.kp N4)
  clear N4
  go_wp2_with fail
  refine (All_q (HE.out.kp K4.out) [52, 50, 57, 52, 57, 54, 55, 50, 57, 54] (by decide) [] 11 1 1 (by rw [ex_c]; rfl) (by rw [ex_c]; rfl) (by rw [ex_c]; rfl) (by rw [ex_c]; rfl)).mono ?_
  rintro e w5 ⟨ao5, cap5, rfl, _, k5⟩
  have c20 := (k5.cells P2 0 z2).trans c20
  have c21 := (k5.cells P2 1 z2).trans c21
  have c22 := (k5.cells P2 2 z2).trans c22
  have z2 := Nat.lt_of_lt_of_le z2 k5.size
  have c40 := (k5.cells P4 0 z4).trans c40
  have c41 := (k5.cells P4 1 z4).trans c41
  have c42 := (k5.cells P4 2 z4).trans c42
  have z4 := Nat.lt_of_lt_of_le z4 k5.size
  have K5 := Lib.hid (K4.out.trans k5)
  have HT5 := Lib.hid (HT4.out.kp k5)
  clear k5
  go_upto_region 4 with (fail)
  generalize hw6 : World.alloc w5 _ = w6
  have A6 := alloc_new_of hw6
  have N6 := A6.2.1
  have c60 := A6.1 0
  have c61 := A6.1 1
  have c62 := A6.1 2
  have z6 := A6.2.2.1
  simp only [List.getElem?_toArray, List.getElem?_cons_succ, List.getElem?_cons_zero] at c60 c61 c62
  obtain ⟨P6, hP6⟩ : ∃ P, w5.heap.size = P := ⟨_, rfl⟩
  rw [hP6] at c60 c61 c62 z6 ⊢
  clear A6 hw6 hP6
  have c20 := (N6.cells P2 0 z2).trans c20
  have c21 := (N6.cells P2 1 z2).trans c21
  have c22 := (N6.cells P2 2 z2).trans c22
  have z2 := Nat.lt_of_lt_of_le z2 N6.size
  have c40 := (N6.cells P4 0 z4).trans c40
  have c41 := (N6.cells P4 1 z4).trans c41
  have c42 := (N6.cells P4 2 z4).trans c42
  have z4 := Nat.lt_of_lt_of_le z4 N6.size
  have K6 := Lib.hid (K5.out.trans N6)
  have HT6 := Lib.hid (HT5.out.kp N6)
  clear N6
  go_wp2_with fail
  refine (texts_any (l := exA) HT6.out (by decide)).mono ?_
  rintro e w7 ⟨ao7, cap7, rfl, hS, k7⟩
  rw [show (exA.map (·.t)).length = 4 from rfl]
  have c20 := (k7.cells P2 0 z2).trans c20
  have c21 := (k7.cells P2 1 z2).trans c21
  have c22 := (k7.cells P2 2 z2).trans c22
  have z2 := Nat.lt_of_lt_of_le z2 k7.size
  have c40 := (k7.cells P4 0 z4).trans c40
  have c41 := (k7.cells P4 1 z4).trans c41
  have c42 := (k7.cells P4 2 z4).trans c42
  have z4 := Nat.lt_of_lt_of_le z4 k7.size
  have c60 := (k7.cells P6 0 z6).trans c60
  have c61 := (k7.cells P6 1 z6).trans c61
  have c62 := (k7.cells P6 2 z6).trans c62
  have z6 := Nat.lt_of_lt_of_le z6 k7.size
  have K7 := Lib.hid (K6.out.trans k7)
  have HT7 := Lib.hid (HT6.out.kp k7)
  have HS := Lib.hid hS
  clear k7 hS
  obtain ⟨b, off, hao, hcs⟩ := TIn.at HT7.out (i := 3) (by decide)
  have x3 := hcs.n 3 (by decide)
  have zb := hcs.size
  have hx3 : (exA.getD 3 t0).n = 2 := rfl
  rw [hx3] at x3
  clear hcs hx3
  rw [hao]
  go_wp2_with fail
  refine (Texts_any ao7 (some ⟨w7.heap.size, 0, none⟩) cap7 4 (exA.map (·.t)) [[120], [60, 60], [61], [50]] _ (HS.out.kp ((Kp.refl w7).alloc _ _)) (sin_new (w := w7) (T := 9) (l := [[120], [60, 60], [61], [50]]) (Kp.refl _)) (by decide) true ⟨fun _ => rfl, fun _ => rfl⟩).mono ?_
  rintro e w9 ⟨rfl, q9⟩
  have k9 : Kp w7 w9 := ((Kp.refl w7).alloc _ _).trans q9.kp
  have c20 := (k9.cells P2 0 z2).trans c20
  have c21 := (k9.cells P2 1 z2).trans c21
  have c22 := (k9.cells P2 2 z2).trans c22
  have z2 := Nat.lt_of_lt_of_le z2 k9.size
  have c40 := (k9.cells P4 0 z4).trans c40
  have c41 := (k9.cells P4 1 z4).trans c41
  have c42 := (k9.cells P4 2 z4).trans c42
  have z4 := Nat.lt_of_lt_of_le z4 k9.size
  have c60 := (k9.cells P6 0 z6).trans c60
  have c61 := (k9.cells P6 1 z6).trans c61
  have c62 := (k9.cells P6 2 z6).trans c62
  have z6 := Nat.lt_of_lt_of_le z6 k9.size
  have y3 := (k9.cells b _ zb).trans x3
  have K9 := Lib.hid (K7.out.trans k9)
  have y4 : w9.cell? ⟨b, off + 15 + 4, none⟩ = some (.int .u32 2) := y3
  have y5 : w9.cell? ⟨b, off + 19, none⟩ = some (.int .u32 2) := y3
  clear q9 k9 x3
  go_wp2
  go_ret
  exact ⟨rfl, K9.out⟩
end Lx
end Go.Proofs.YtlgkcjhoaecekaaDoor
