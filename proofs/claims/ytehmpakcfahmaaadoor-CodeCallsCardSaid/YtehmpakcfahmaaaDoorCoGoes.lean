/-
  WALK: the statement CodeGoes. Own work.
-/
import Derived.Test.YtehmpakcfahmaaaDoorCoLives
namespace Go.Proofs.YtehmpakcfahmaaaDoor
namespace Co
open Go.RowKit Go
set_option linter.unusedVariables false

theorem lives_k {w0 w : World} (hE : Env w0) (hk : Kp w0 w) : Calls Tryd.prog 12 #[] w fun e w' => e = .returned (.bool true) ∧ Kp w w' := lives_yes (hE.kept hk)
theorem goes_fin : ∀ n : Fin 25, 1 ≤ n.val → ((rowAt n.val).jm = (decide (n.val = 15) || decide (n.val = 16))) ∧ ((rowAt n.val).sp = (decide (n.val = 1) || decide (n.val = 15) || decide (n.val = 18))) ∧ (0 ≤ (rowAt n.val).tk ∧ (rowAt n.val).tk ≤ 2) ∧ (0 ≤ (rowAt n.val).gv ∧ (rowAt n.val).gv ≤ 1) := by decide +kernel
theorem goes_row {op : Int} (h : 1 ≤ op ∧ op ≤ 24) : ((rowAt op).jm = (decide (op = 15) || decide (op = 16))) ∧ ((rowAt op).sp = (decide (op = 1) || decide (op = 15) || decide (op = 18))) ∧ (0 ≤ (rowAt op).tk ∧ (rowAt op).tk ≤ 2) ∧ (0 ≤ (rowAt op).gv ∧ (rowAt op).gv ≤ 1) := by
  have := goes_fin ⟨op.toNat, by omega⟩ (by simp; omega)
  have e : ((op.toNat : Nat) : Int) = op := Int.toNat_of_nonneg (by omega)
  simp only [e] at this
  obtain ⟨a, b, c⟩ := this
  have e15 : (op.toNat = 15) = (op = 15) := by apply propext; omega
  have e16 : (op.toNat = 16) = (op = 16) := by apply propext; omega
  have e1 : (op.toNat = 1) = (op = 1) := by apply propext; omega
  have e18 : (op.toNat = 18) = (op = 18) := by apply propext; omega
  simp only [e15, e16, e1, e18] at a b
  exact ⟨a, b, c⟩

set_option maxHeartbeats 1000000 in
set_option maxRecDepth 100000 in
theorem goes_bad (op x y z : Int) (ao : Option Addr) (n cap : Nat) (w : World) (hE : Env w) (hi : Wf ⟨op, x, y, z⟩) (hc : chk ⟨op, x, y, z⟩ = false) :
    Calls Tryd.prog 8 #[.agg #[.int .i64 op, .int .i64 x, .int .i64 y, .int .i64 z], .slice ao n cap] w (Yes w) := by
  have HI := Lib.hid hi
  have HT := Lib.hid (show jmpT ⟨op, x, y, z⟩ = 0 by unfold jmpT; rw [hc]; rfl)
  have HJ := Lib.hid (show jmpJ ⟨op, x, y, z⟩ = false by unfold jmpJ; rw [hc]; rfl)
  have HO := Lib.hid (show jmpO ⟨op, x, y, z⟩ = false by unfold jmpO; rw [hc]; rfl)
  have HC := Lib.hid (chkE_no hc)
  clear hi hc
  have K0 := (Kp.refl w).alloc #[.int .i64 op, .int .i64 x, .int .i64 y, .int .i64 z] 27
  go_enter Tryd.func8, Tryd.ntmps8
  go_wp2_with fail
  refine (lives_k hE K0).mono ?_
  rintro e w1 ⟨rfl, k1⟩
  have c1 := k1.cells
  go_wp2_with fail
  refine (Jumps_k hE (K0.trans k1) op x y z HI.out 0 false false HT.out HJ.out HO.out).mono ?_
  rintro e w2 ⟨rfl, k2⟩
  have kb := k1.trans k2
  have c2 := kb.cells
  clear k1 k2 c1
  go_wp2_with fail
  refine (Check_k hE (K0.trans kb) op x y z 2 HI.out HC.out).mono ?_
  rintro e w3 ⟨rfl, k3⟩
  go_wp2
  go_ret
  exact ⟨rfl, (K0.trans kb).trans k3⟩
set_option maxHeartbeats 2000000 in
set_option maxRecDepth 100000 in
theorem goes_long (op x y z : Int) (ao : Option Addr) (n cap : Nat) (xs : Nat → Int) (w : World) (hE : Env w) (hi : Wf ⟨op, x, y, z⟩) (hc : chk ⟨op, x, y, z⟩ = true) (hv : IIn w ao xs n) (hn : (100 : Int) < n) (hm : n ≤ 9223372036854775807) :
    Calls Tryd.prog 8 #[.agg #[.int .i64 op, .int .i64 x, .int .i64 y, .int .i64 z], .slice ao n cap] w (Yes w) := by
  have HI := Lib.hid hi
  have HC := Lib.hid (chkE_yes hc)
  have HV := Lib.hid hv
  clear hi hc hv
  have K0 := (Kp.refl w).alloc #[.int .i64 op, .int .i64 x, .int .i64 y, .int .i64 z] 27
  go_enter Tryd.func8, Tryd.ntmps8
  go_wp2_with fail
  refine (lives_k hE K0).mono ?_
  rintro e w1 ⟨rfl, k1⟩
  have c1 := k1.cells
  go_wp2_with fail
  refine (Jumps_k hE (K0.trans k1) op x y z HI.out _ _ _ rfl rfl rfl).mono ?_
  rintro e w2 ⟨rfl, k2⟩
  have kb := k1.trans k2
  have c2 := kb.cells
  clear k1 k2 c1
  go_wp2_with fail
  refine (Check_k hE (K0.trans kb) op x y z 0 HI.out HC.out).mono ?_
  rintro e w3 ⟨rfl, k3⟩
  have kc := kb.trans k3
  have c3 := kc.cells
  clear kb k3 c2
  go_wp2_with fail
  refine (Effect_k hE (K0.trans kc) op x y z HI.out ao n cap xs (HV.out.kp (K0.trans kc)) _ _ _ rfl rfl rfl).mono ?_
  rintro e w4 ⟨rfl, k4⟩
  go_wp2
  go_ret
  exact ⟨rfl, (K0.trans kc).trans k4⟩
set_option maxHeartbeats 4000000 in
set_option maxRecDepth 100000 in
theorem goes_plain (op x y z : Int) (ao : Option Addr) (n cap : Nat) (xs : Nat → Int) (w : World) (hE : Env w) (hi : Wf ⟨op, x, y, z⟩) (hc : chk ⟨op, x, y, z⟩ = true) (hv : IIn w ao xs n) (hn : (n : Int) ≤ 100) (h17 : (op == 17) = false) (t u v : Int) (j o : Bool)
    (hT : jmpT ⟨op, x, y, z⟩ = t) (hJ : jmpJ ⟨op, x, y, z⟩ = j) (hO : jmpO ⟨op, x, y, z⟩ = o) (hU : effT ⟨op, x, y, z⟩ xs n = u) (hV : effG ⟨op, x, y, z⟩ n = v) (hW : effO ⟨op, x, y, z⟩ n = true) (u0 : 0 ≤ u) (u1 : u ≤ 2) (v0 : 0 ≤ v) (v1 : v ≤ 1)
    (b15 b16 b1 b18 : Bool) (e15 : (op == 15) = b15) (e16 : (op == 16) = b16) (n1 : (op != 1) = !b1) (n15 : (op != 15) = !b15) (n18 : (op != 18) = !b18)
    (hcomb : (b15 = true ∧ b16 = false ∧ b1 = false ∧ b18 = false ∧ t = x ∧ j = true ∧ o = false) ∨ (b15 = false ∧ b16 = true ∧ b1 = false ∧ b18 = false ∧ t = x ∧ j = true ∧ o = true) ∨ (b15 = false ∧ b16 = false ∧ b1 = true ∧ b18 = false ∧ t = 0 ∧ j = false ∧ o = false) ∨ (b15 = false ∧ b16 = false ∧ b1 = false ∧ b18 = true ∧ t = 0 ∧ j = false ∧ o = false) ∨ (b15 = false ∧ b16 = false ∧ b1 = false ∧ b18 = false ∧ t = 0 ∧ j = false ∧ o = true)) :
    Calls Tryd.prog 8 #[.agg #[.int .i64 op, .int .i64 x, .int .i64 y, .int .i64 z], .slice ao n cap] w (Yes w) := by
  have HI := Lib.hid hi
  have HC := Lib.hid (chkE_yes hc)
  have HV := Lib.hid hv
  have H1 := Lib.hid hT
  have H2 := Lib.hid hJ
  have H3 := Lib.hid hO
  have H4 := Lib.hid hU
  have H5 := Lib.hid hV
  have H6 := Lib.hid hW
  clear hi hc hv hT hJ hO hU hV hW
  have K0 := (Kp.refl w).alloc #[.int .i64 op, .int .i64 x, .int .i64 y, .int .i64 z] 27
  rcases hcomb with ⟨rfl, rfl, rfl, rfl, rfl, rfl, rfl⟩ | ⟨rfl, rfl, rfl, rfl, rfl, rfl, rfl⟩ | ⟨rfl, rfl, rfl, rfl, rfl, rfl, rfl⟩ | ⟨rfl, rfl, rfl, rfl, rfl, rfl, rfl⟩ | ⟨rfl, rfl, rfl, rfl, rfl, rfl, rfl⟩
  all_goals
    go_enter Tryd.func8, Tryd.ntmps8
    go_wp2_with fail
    refine (lives_k hE K0).mono ?_
    rintro e w1 ⟨rfl, k1⟩
    have c1 := k1.cells
    go_wp2_with fail
    refine (Jumps_k hE (K0.trans k1) op _ y z HI.out _ _ _ H1.out H2.out H3.out).mono ?_
    rintro e w2 ⟨rfl, k2⟩
    have kb := k1.trans k2
    have c2 := kb.cells
    clear k1 k2 c1
    go_wp2_with fail
    refine (Check_k hE (K0.trans kb) op _ y z 0 HI.out HC.out).mono ?_
    rintro e w3 ⟨rfl, k3⟩
    have kc := kb.trans k3
    have c3 := kc.cells
    clear kb k3 c2
    go_wp2_with fail
    refine (Effect_k hE (K0.trans kc) op _ y z HI.out ao n cap xs (HV.out.kp (K0.trans kc)) u v true H4.out H5.out H6.out).mono ?_
    rintro e w4 ⟨rfl, k4⟩
    have kd := kc.trans k4
    have c4 := kd.cells
    clear kc k4 c3
    go_wp2
    all_goals first | (exfalso; omega) | (go_ret; exact ⟨rfl, K0.trans kd⟩) | (go_ret; exact ⟨ret_bool (by simp <;> omega), K0.trans kd⟩)
end Co
end Go.Proofs.YtehmpakcfahmaaaDoor
