/-
  WALKS: the statement LexCalls. Own work.
-/
import Derived.Test.YtlgkcjhoaecekaaDoorLxRefL
import Derived.Test.YtlgkcjhoaecekaaDoorLxParts
import Derived.Test.YtlgkcjhoaecekaaDoorLxBackF
import Derived.Test.YtlgkcjhoaecekaaDoorLxJoinW
namespace Go.Proofs.YtlgkcjhoaecekaaDoor
namespace Lx
open Go.RowKit Go
set_option linter.unusedVariables false

theorem rAll_q {w : World} (s : List UInt8) (hl : s.length ≤ 65536) (ts : List Tk) (fe fl fc : Int) (h1 : resT (Lex s 1 1) = ts) (h2 : resE (Lex s 1 1) = fe) (h3 : resL (Lex s 1 1) = fl) (h4 : resC (Lex s 1 1) = fc) :
    Calls Tryd.prog 13 #[.string (bytesOf s)] w (AllQ w ts fe fl fc) :=
  (rAll_any s hl ts fe fl fc h1 h2 h3 h4).mono fun e w' ⟨tv, he, ho, k⟩ => by
    obtain ⟨ao, cap, rfl, _, _, _⟩ := own_form ho
    exact ⟨ao, cap, he, row_K ho, k⟩
theorem flt_struct : Tryd.prog.underlying 25 = some (.struct (Tryd.prog.fieldsOf 25)) := by kernel_rfl
theorem flt_held : Tryd.prog.stoodInHeld 25 = false := by kernel_rfl
theorem flt_same (a c d : Int) (w : World) : (binOp .eql 25 (.agg #[.int .i64 a, .int .i64 c, .int .i64 d]) (.agg #[.int .i64 a, .int .i64 c, .int .i64 d])).run Tryd.prog w = .ok (.bool true) w := by
  have hu := Tryd.underlying25
  have hi := Tryd.underlying3
  have he := Tryd.underlying23
  rw [run_eql_struct, run_equalIn_agg w 9999 _ _ _ flt_struct flt_held]
  simp [Op.eqFields, Program.fieldsOf, hu, hi, he, go_sem]
theorem calls_facts (s : List UInt8) (h : s.length ≤ 2000) (ts : List Tk) (h1 : resT (Lex s 1 1) = ts) : ts.length ≤ 2000 ∧ (joinL (ts.map (·.t))).length ≤ 4000 := by
  cases hx : Lex s 1 1 with
  | ok us =>
    rw [hx] at h1
    subst h1
    have a := Lex_len hx
    have b := (back_again hx).1
    exact ⟨by show us.length ≤ 2000; omega, by show (joinL (us.map (·.t))).length ≤ 4000; omega⟩
  | error e =>
    rw [hx] at h1
    subst h1
    exact ⟨by simp [resT], by simp [resT, joinL]⟩
set_option maxHeartbeats 4000000 in
set_option maxRecDepth 100000 in
theorem calls_walk (s x : List UInt8) (at' : Int) (w : World) (hE : Env w) (hs : (bytesOf s).size ≤ 9223372036854775807) (hx : (bytesOf x).size ≤ 9223372036854775807) (h1 : -9223372036854775808 ≤ at') (h2 : at' ≤ 9223372036854775807) :
    Calls Tryd.prog 4 #[.string (bytesOf s), .string (bytesOf x), .int .i64 at'] w fun e w' => e = .returned (.bool true) ∧ Kp w w' := by
  have HE := Lib.hid hE
  clear hE
  by_cases ga : 2000 < (bytesOf s).size
  · have ga' : (2000 : Int) < ((bytesOf s).size : Int) := by omega
    go_enter Tryd.func4, Tryd.ntmps4
    go_wp2_with fail
    refine (lives_any HE.out).mono ?_
    rintro e w1 ⟨rfl, k1⟩
    go_wp2
    go_ret
    exact ⟨rfl, k1⟩
  by_cases gb : 2000 < (bytesOf x).size
  · have ga' : ((bytesOf s).size : Int) ≤ 2000 := by omega
    have gb' : (2000 : Int) < ((bytesOf x).size : Int) := by omega
    go_enter Tryd.func4, Tryd.ntmps4
    go_wp2_with fail
    refine (lives_any HE.out).mono ?_
    rintro e w1 ⟨rfl, k1⟩
    go_wp2
    go_ret
    exact ⟨rfl, k1⟩
  have ga' : ((bytesOf s).size : Int) ≤ 2000 := by omega
  have gb' : ((bytesOf x).size : Int) ≤ 2000 := by omega
  have sa : s.length ≤ 2000 := by rw [← bytesOf_size]; omega
  have sb : x.length ≤ 2000 := by rw [← bytesOf_size]; omega
  obtain ⟨ts, fe, fl, fc, r1, r2, r3, r4, -⟩ := res_cases s
  obtain ⟨c1, c2⟩ := calls_facts s sa ts r1
  have HA := Lib.hid (fun W (hE : Env W) => All_q hE s (by omega) ts fe fl fc r1 r2 r3 r4)
  have HB := Lib.hid (fun W => rAll_q (w := W) s (by omega) ts fe fl fc r1 r2 r3 r4)
  obtain ⟨⟨ll, cc⟩, hlc⟩ : ∃ z, posL (s.take (clampN s.length at')) = z := ⟨_, rfl⟩
  have HL := Lib.hid (fun W => Line_any s (by omega) at' h1 h2 W ll cc hlc)
  have HR := Lib.hid (fun W => rLine_any s (by omega) at' h1 h2 W ll cc hlc)
  obtain ⟨q, hq⟩ : ∃ q, kindA x = q := ⟨_, rfl⟩
  have HK := Lib.hid (fun W => Kind_any x (by omega) W q hq)
  have HKR := Lib.hid (fun W => rKind_any x (by omega) W q hq)
  obtain ⟨J, hJ⟩ : ∃ J, joinL (ts.map (·.t)) = J := ⟨_, rfl⟩
  rw [hJ] at c2
  have HJ := Lib.hid (fun W ao cap (hT : TIn W ao ts) => Join_any (cap := cap) hT (by omega) J hJ (by omega))
  have HJR := Lib.hid (fun W ao cap (hT : TIn W ao ts) => rJoin_any (cap := cap) hT (by omega) J hJ (by omega))
  have HT := Lib.hid (fun W ao bo ca cb (a : TIn W ao ts) (b : TIn W bo ts) => tokens_same ao bo ca cb ts W a b (by omega))
  have qf := flt_same fe fl fc
  have hbJ : ((bytesOf J).toList == (bytesOf J).toList) = true := by simp
  clear sa sb c1 c2 r1 r2 r3 r4 hlc hq hJ ga gb hs hx
  generalize bytesOf J = bJ at *
  go_enter Tryd.func4, Tryd.ntmps4
  go_wp2_with fail
  refine (lives_any HE.out).mono ?_
  rintro e w1 ⟨rfl, k1⟩
  have K1 := Lib.hid k1
  clear k1
  go_wp2_with fail
  refine (HA.out _ (HE.out.kp K1.out)).mono ?_
  rintro e w3 ⟨aoa, capa, rfl, hT, k3⟩
  have K3 := Lib.hid (K1.out.trans k3)
  have HTA := Lib.hid hT
  clear k3 hT
  go_upto_region 6 with (fail)
  generalize hw4 : World.alloc w3 _ = w4
  have A4 := alloc_new_of hw4
  have N4 := A4.2.1
  have c40 := A4.1 0
  have c41 := A4.1 1
  have c42 := A4.1 2
  have z4 := A4.2.2.1
  simp only [List.getElem?_toArray, List.getElem?_cons_succ, List.getElem?_cons_zero] at c40 c41 c42
  obtain ⟨P4, hP4⟩ : ∃ P, w3.heap.size = P := ⟨_, rfl⟩
  rw [hP4] at c40 c41 c42 z4 ⊢
  clear A4 hw4 hP4
  have K4 := Lib.hid (K3.out.trans N4)
  have HTA := Lib.hid (HTA.out.kp N4)
  clear N4
  go_wp2_with fail
  refine (HB.out _).mono ?_
  rintro e w5 ⟨aob, capb, rfl, hT, k5⟩
  have c40 := (k5.cells P4 0 z4).trans c40
  have c41 := (k5.cells P4 1 z4).trans c41
  have c42 := (k5.cells P4 2 z4).trans c42
  have z4 := Nat.lt_of_lt_of_le z4 k5.size
  have K5 := Lib.hid (K4.out.trans k5)
  have HTA := Lib.hid (HTA.out.kp k5)
  have HTB := Lib.hid hT
  clear k5 hT
  go_upto_region 7 with (fail)
  generalize hw6 : World.alloc w5 _ = w6
  have A6 := alloc_new_of hw6
  have N6 := A6.2.1
  have c60 := A6.1 0
  have c61 := A6.1 1
  have c62 := A6.1 2
  have z6 := A6.2.2.1
  simp only [List.getElem?_toArray, List.getElem?_cons_succ, List.getElem?_cons_zero] at c60 c61 c62
  obtain ⟨P6, hP6⟩ : ∃ P, w5.heap.size = P := ⟨_, rfl⟩
  rw [hP6] at c60 c61 c62 z6 ⊢
  have c40 := (N6.cells P4 0 z4).trans c40
  have c41 := (N6.cells P4 1 z4).trans c41
  have c42 := (N6.cells P4 2 z4).trans c42
  have z4 := Nat.lt_of_lt_of_le z4 N6.size
  clear A6 hw6 hP6
  have K6 := Lib.hid (K5.out.trans N6)
  have HTA := Lib.hid (HTA.out.kp N6)
  have HTB := Lib.hid (HTB.out.kp N6)
  clear N6
  go_wp2_with fail
  refine (HL.out _).mono ?_
  rintro e w7 ⟨rfl, rfl⟩
  go_wp2_with fail
  refine (HR.out _).mono ?_
  rintro e w7 ⟨rfl, rfl⟩
  go_wp2_with fail
  refine (HT.out _ _ _ _ _ HTA.out HTB.out).mono ?_
  rintro e w8 ⟨rfl, q8⟩
  have k8 := q8.kp
  have c40 := (k8.cells P4 0 z4).trans c40
  have c41 := (k8.cells P4 1 z4).trans c41
  have c42 := (k8.cells P4 2 z4).trans c42
  have c60 := (k8.cells P6 0 z6).trans c60
  have c61 := (k8.cells P6 1 z6).trans c61
  have c62 := (k8.cells P6 2 z6).trans c62
  have K8 := Lib.hid (K6.out.trans k8)
  have HTB := Lib.hid (HTB.out.kp k8)
  clear q8 k8 HTA
  go_wp2_with fail
  refine (HK.out _).mono ?_
  rintro e w9 ⟨rfl, k9⟩
  have K9 := Lib.hid (K8.out.trans k9)
  have HTB := Lib.hid (HTB.out.kp k9)
  clear k9
  go_wp2_with fail
  refine (HKR.out _).mono ?_
  rintro e w10 ⟨rfl, k10⟩
  have K10 := Lib.hid (K9.out.trans k10)
  have HTB := Lib.hid (HTB.out.kp k10)
  clear k10
  go_wp2_with fail
  refine (HJ.out _ _ _ HTB.out).mono ?_
  rintro e w11 ⟨rfl, k11⟩
  have K11 := Lib.hid (K10.out.trans k11)
  have HTB := Lib.hid (HTB.out.kp k11)
  clear k11
  go_wp2_with fail
  refine (HJR.out _ _ _ HTB.out).mono ?_
  rintro e w12 ⟨rfl, k12⟩
  have K12 := Lib.hid (K11.out.trans k12)
  clear k12
  go_wp2
  go_ret
  exact ⟨rfl, K12.out⟩
end Lx
end Go.Proofs.YtlgkcjhoaecekaaDoor
