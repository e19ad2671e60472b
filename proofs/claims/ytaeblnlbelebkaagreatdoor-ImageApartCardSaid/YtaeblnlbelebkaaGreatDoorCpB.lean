/-
  PLAIN FACTS and WALKS: the document's own answers of layer 3 (Check, Text, Parse), as the texts of stage 3 have them, but for what speaks of functions that are not here. Own work.
-/
import Derived.Test.YtaeblnlbelebkaaGreatDoorCpA
import Derived.ChangeAlike
import Derived.Deep.DeepCutAuto
import Derived.Deep.RegionHeld3
import Derived.Deep.RegionWith
import Derived.IntWalk
import Derived.Laws.AppendOwn
import Derived.Outline
import Derived.StillTailTactics
namespace Go.Proofs.YtaeblnlbelebkaaGreatDoor
namespace Co
open Go.RowKit Go
set_option linter.unusedVariables false

theorem rSign_1 (w : World) :
    Calls Tryz.prog 94 #[.int .i64 1] w fun e w' => e = .returned (.string (bytesOf (signL 1))) ∧ Kp w w' := by
  go_enter Tryz.func94, Tryz.ntmps94
  go_wp2
  go_ret
  exact ⟨rfl, (Kp.refl w).alloc _ _⟩

theorem rSign_2 (w : World) :
    Calls Tryz.prog 94 #[.int .i64 2] w fun e w' => e = .returned (.string (bytesOf (signL 2))) ∧ Kp w w' := by
  go_enter Tryz.func94, Tryz.ntmps94
  go_wp2
  go_ret
  exact ⟨rfl, (Kp.refl w).alloc _ _⟩

theorem rSign_3 (w : World) :
    Calls Tryz.prog 94 #[.int .i64 3] w fun e w' => e = .returned (.string (bytesOf (signL 3))) ∧ Kp w w' := by
  go_enter Tryz.func94, Tryz.ntmps94
  go_wp2
  go_ret
  exact ⟨rfl, (Kp.refl w).alloc _ _⟩

theorem rSign_4 (w : World) :
    Calls Tryz.prog 94 #[.int .i64 4] w fun e w' => e = .returned (.string (bytesOf (signL 4))) ∧ Kp w w' := by
  go_enter Tryz.func94, Tryz.ntmps94
  go_wp2
  go_ret
  exact ⟨rfl, (Kp.refl w).alloc _ _⟩

theorem rSign_5 (w : World) :
    Calls Tryz.prog 94 #[.int .i64 5] w fun e w' => e = .returned (.string (bytesOf (signL 5))) ∧ Kp w w' := by
  go_enter Tryz.func94, Tryz.ntmps94
  go_wp2
  go_ret
  exact ⟨rfl, (Kp.refl w).alloc _ _⟩

theorem rSign_6 (w : World) :
    Calls Tryz.prog 94 #[.int .i64 6] w fun e w' => e = .returned (.string (bytesOf (signL 6))) ∧ Kp w w' := by
  go_enter Tryz.func94, Tryz.ntmps94
  go_wp2
  go_ret
  exact ⟨rfl, (Kp.refl w).alloc _ _⟩

theorem rSign_7 (w : World) :
    Calls Tryz.prog 94 #[.int .i64 7] w fun e w' => e = .returned (.string (bytesOf (signL 7))) ∧ Kp w w' := by
  go_enter Tryz.func94, Tryz.ntmps94
  go_wp2
  go_ret
  exact ⟨rfl, (Kp.refl w).alloc _ _⟩

theorem rSign_8 (w : World) :
    Calls Tryz.prog 94 #[.int .i64 8] w fun e w' => e = .returned (.string (bytesOf (signL 8))) ∧ Kp w w' := by
  go_enter Tryz.func94, Tryz.ntmps94
  go_wp2
  go_ret
  exact ⟨rfl, (Kp.refl w).alloc _ _⟩

theorem rSign_9 (w : World) :
    Calls Tryz.prog 94 #[.int .i64 9] w fun e w' => e = .returned (.string (bytesOf (signL 9))) ∧ Kp w w' := by
  go_enter Tryz.func94, Tryz.ntmps94
  go_wp2
  go_ret
  exact ⟨rfl, (Kp.refl w).alloc _ _⟩

theorem rSign_10 (w : World) :
    Calls Tryz.prog 94 #[.int .i64 10] w fun e w' => e = .returned (.string (bytesOf (signL 10))) ∧ Kp w w' := by
  go_enter Tryz.func94, Tryz.ntmps94
  go_wp2
  go_ret
  exact ⟨rfl, (Kp.refl w).alloc _ _⟩

theorem rSign_11 (w : World) :
    Calls Tryz.prog 94 #[.int .i64 11] w fun e w' => e = .returned (.string (bytesOf (signL 11))) ∧ Kp w w' := by
  go_enter Tryz.func94, Tryz.ntmps94
  go_wp2
  go_ret
  exact ⟨rfl, (Kp.refl w).alloc _ _⟩

theorem rSign_12 (w : World) :
    Calls Tryz.prog 94 #[.int .i64 12] w fun e w' => e = .returned (.string (bytesOf (signL 12))) ∧ Kp w w' := by
  go_enter Tryz.func94, Tryz.ntmps94
  go_wp2
  go_ret
  exact ⟨rfl, (Kp.refl w).alloc _ _⟩

theorem rSign_13 (w : World) :
    Calls Tryz.prog 94 #[.int .i64 13] w fun e w' => e = .returned (.string (bytesOf (signL 13))) ∧ Kp w w' := by
  go_enter Tryz.func94, Tryz.ntmps94
  go_wp2
  go_ret
  exact ⟨rfl, (Kp.refl w).alloc _ _⟩

theorem rSign_14 (w : World) :
    Calls Tryz.prog 94 #[.int .i64 14] w fun e w' => e = .returned (.string (bytesOf (signL 14))) ∧ Kp w w' := by
  go_enter Tryz.func94, Tryz.ntmps94
  go_wp2
  go_ret
  exact ⟨rfl, (Kp.refl w).alloc _ _⟩

theorem rSign_15 (w : World) :
    Calls Tryz.prog 94 #[.int .i64 15] w fun e w' => e = .returned (.string (bytesOf (signL 15))) ∧ Kp w w' := by
  go_enter Tryz.func94, Tryz.ntmps94
  go_wp2
  go_ret
  exact ⟨rfl, (Kp.refl w).alloc _ _⟩

theorem rSign_16 (w : World) :
    Calls Tryz.prog 94 #[.int .i64 16] w fun e w' => e = .returned (.string (bytesOf (signL 16))) ∧ Kp w w' := by
  go_enter Tryz.func94, Tryz.ntmps94
  go_wp2
  go_ret
  exact ⟨rfl, (Kp.refl w).alloc _ _⟩

theorem rSign_17 (w : World) :
    Calls Tryz.prog 94 #[.int .i64 17] w fun e w' => e = .returned (.string (bytesOf (signL 17))) ∧ Kp w w' := by
  go_enter Tryz.func94, Tryz.ntmps94
  go_wp2
  go_ret
  exact ⟨rfl, (Kp.refl w).alloc _ _⟩

theorem rSign_18 (w : World) :
    Calls Tryz.prog 94 #[.int .i64 18] w fun e w' => e = .returned (.string (bytesOf (signL 18))) ∧ Kp w w' := by
  go_enter Tryz.func94, Tryz.ntmps94
  go_wp2
  go_ret
  exact ⟨rfl, (Kp.refl w).alloc _ _⟩

theorem rSign_19 (w : World) :
    Calls Tryz.prog 94 #[.int .i64 19] w fun e w' => e = .returned (.string (bytesOf (signL 19))) ∧ Kp w w' := by
  go_enter Tryz.func94, Tryz.ntmps94
  go_wp2
  go_ret
  exact ⟨rfl, (Kp.refl w).alloc _ _⟩

theorem rSign_lo (op : Int) (w : World) (h : op < 1) :
    Calls Tryz.prog 94 #[.int .i64 op] w fun e w' => e = .returned (.string (bytesOf [])) ∧ Kp w w' := by
  go_enter Tryz.func94, Tryz.ntmps94
  go_wp2
  go_ret
  exact ⟨rfl, (Kp.refl w).alloc _ _⟩

theorem rSign_hi (op : Int) (w : World) (h : 19 < op) :
    Calls Tryz.prog 94 #[.int .i64 op] w fun e w' => e = .returned (.string (bytesOf [])) ∧ Kp w w' := by
  go_enter Tryz.func94, Tryz.ntmps94
  go_wp2
  go_ret
  exact ⟨rfl, (Kp.refl w).alloc _ _⟩

theorem rSign_any (op : Int) (w : World) :
    Calls Tryz.prog 94 #[.int .i64 op] w fun e w' => e = .returned (.string (bytesOf (signL op))) ∧ Kp w w' := by
  by_cases h : op < 1 ∨ 19 < op
  · have e : signL op = [] := by unfold signL; rw [if_pos h]
    rw [e]
    rcases h with h | h
    · exact rSign_lo op w h
    · exact rSign_hi op w h
  · have hop : op = 1 ∨ op = 2 ∨ op = 3 ∨ op = 4 ∨ op = 5 ∨ op = 6 ∨ op = 7 ∨ op = 8 ∨ op = 9 ∨ op = 10 ∨ op = 11 ∨ op = 12 ∨ op = 13 ∨ op = 14 ∨ op = 15 ∨ op = 16 ∨ op = 17 ∨ op = 18 ∨ op = 19 := by omega
    rcases hop with rfl | rfl | rfl | rfl | rfl | rfl | rfl | rfl | rfl | rfl | rfl | rfl | rfl | rfl | rfl | rfl | rfl | rfl | rfl
    · exact rSign_1 w
    · exact rSign_2 w
    · exact rSign_3 w
    · exact rSign_4 w
    · exact rSign_5 w
    · exact rSign_6 w
    · exact rSign_7 w
    · exact rSign_8 w
    · exact rSign_9 w
    · exact rSign_10 w
    · exact rSign_11 w
    · exact rSign_12 w
    · exact rSign_13 w
    · exact rSign_14 w
    · exact rSign_15 w
    · exact rSign_16 w
    · exact rSign_17 w
    · exact rSign_18 w
    · exact rSign_19 w

theorem rName_1 (w : World) :
    Calls Tryz.prog 95 #[.int .i64 1] w fun e w' => e = .returned (.string (bytesOf (nameL 1))) ∧ Kp w w' := by
  go_enter Tryz.func95, Tryz.ntmps95
  go_wp2
  go_ret
  exact ⟨rfl, (Kp.refl w).alloc _ _⟩

theorem rName_2 (w : World) :
    Calls Tryz.prog 95 #[.int .i64 2] w fun e w' => e = .returned (.string (bytesOf (nameL 2))) ∧ Kp w w' := by
  go_enter Tryz.func95, Tryz.ntmps95
  go_wp2
  go_ret
  exact ⟨rfl, (Kp.refl w).alloc _ _⟩

theorem rName_3 (w : World) :
    Calls Tryz.prog 95 #[.int .i64 3] w fun e w' => e = .returned (.string (bytesOf (nameL 3))) ∧ Kp w w' := by
  go_enter Tryz.func95, Tryz.ntmps95
  go_wp2
  go_ret
  exact ⟨rfl, (Kp.refl w).alloc _ _⟩

theorem rName_lo (op : Int) (w : World) (h : op < 1) :
    Calls Tryz.prog 95 #[.int .i64 op] w fun e w' => e = .returned (.string (bytesOf [])) ∧ Kp w w' := by
  go_enter Tryz.func95, Tryz.ntmps95
  go_wp2
  go_ret
  exact ⟨rfl, (Kp.refl w).alloc _ _⟩

theorem rName_hi (op : Int) (w : World) (h : 3 < op) :
    Calls Tryz.prog 95 #[.int .i64 op] w fun e w' => e = .returned (.string (bytesOf [])) ∧ Kp w w' := by
  go_enter Tryz.func95, Tryz.ntmps95
  go_wp2
  go_ret
  exact ⟨rfl, (Kp.refl w).alloc _ _⟩

theorem rName_any (op : Int) (w : World) :
    Calls Tryz.prog 95 #[.int .i64 op] w fun e w' => e = .returned (.string (bytesOf (nameL op))) ∧ Kp w w' := by
  by_cases h : op < 1 ∨ 3 < op
  · have e : nameL op = [] := by unfold nameL; rw [if_pos h]
    rw [e]
    rcases h with h | h
    · exact rName_lo op w h
    · exact rName_hi op w h
  · have hop : op = 1 ∨ op = 2 ∨ op = 3 := by omega
    rcases hop with rfl | rfl | rfl
    · exact rName_1 w
    · exact rName_2 w
    · exact rName_3 w
/-- The reference's numbers of kinds. -/
def rk (k : Int) : Int := if k = 1 then 2 else if k = 2 then 3 else if k = 3 then 1 else k
theorem may_1 (n : Int) (w : World) : Calls Tryz.prog 98 #[.int .i64 2, .int .i64 n] w fun e w' => e = .returned (.bool (alw 1 n)) ∧ Kp w w' := by
  rw [alw_1]
  go_enter Tryz.func98, Tryz.ntmps98
  go_wp2
  all_goals (go_ret; exact ⟨ret_bool (by simp <;> omega), Kp.refl _⟩)
theorem may_2 (n : Int) (w : World) : Calls Tryz.prog 98 #[.int .i64 3, .int .i64 n] w fun e w' => e = .returned (.bool (alw 2 n)) ∧ Kp w w' := by
  rw [alw_2]
  go_enter Tryz.func98, Tryz.ntmps98
  go_wp2
  all_goals (go_ret; exact ⟨ret_bool (by simp <;> omega), Kp.refl _⟩)
theorem may_3 (n : Int) (w : World) : Calls Tryz.prog 98 #[.int .i64 1, .int .i64 n] w fun e w' => e = .returned (.bool (alw 3 n)) ∧ Kp w w' := by
  rw [alw_3]
  go_enter Tryz.func98, Tryz.ntmps98
  go_wp2
  all_goals (go_ret; exact ⟨ret_bool (by first | (simp <;> omega) | (rw [Bool.eq_iff_iff]; simp only [decide_eq_true_eq]; omega)), Kp.refl _⟩)
theorem may_4 (n : Int) (w : World) : Calls Tryz.prog 98 #[.int .i64 4, .int .i64 n] w fun e w' => e = .returned (.bool (alw 4 n)) ∧ Kp w w' := by
  rw [alw_4]
  by_cases h : n = 8 ∨ n = 16 ∨ n = 32
  · rcases h with rfl | rfl | rfl
    all_goals
      go_enter Tryz.func98, Tryz.ntmps98
      go_wp2
      go_ret
      exact ⟨rfl, Kp.refl _⟩
  · have h1 : (n == 8) = false := by simp; omega
    have h2 : (n == 16) = false := by simp; omega
    have h3 : (n == 32) = false := by simp; omega
    have hd : decide (n = 8 ∨ n = 16 ∨ n = 32) = false := decide_eq_false h
    rw [hd]
    clear h hd
    go_enter Tryz.func98, Tryz.ntmps98
    go_wp2
    go_ret
    exact ⟨rfl, Kp.refl _⟩
theorem may_5 (n : Int) (w : World) : Calls Tryz.prog 98 #[.int .i64 5, .int .i64 n] w fun e w' => e = .returned (.bool (alw 5 n)) ∧ Kp w w' := by
  rw [alw_5]
  go_enter Tryz.func98, Tryz.ntmps98
  go_wp2_with (go_at_call 94; refine (rSign_any n _).mono ?_; rintro e w1 ⟨rfl, k1⟩)
  go_ret
  exact ⟨ret_bool (neq_nil _ _ (signL_iff n)), k1⟩
theorem may_6 (n : Int) (w : World) : Calls Tryz.prog 98 #[.int .i64 6, .int .i64 n] w fun e w' => e = .returned (.bool (alw 6 n)) ∧ Kp w w' := by
  rw [alw_6]
  go_enter Tryz.func98, Tryz.ntmps98
  go_wp2_with (go_at_call 95; refine (rName_any n _).mono ?_; rintro e w1 ⟨rfl, k1⟩)
  go_ret
  exact ⟨ret_bool (neq_nil _ _ (nameL_iff n)), k1⟩
theorem may_7 (n : Int) (w : World) : Calls Tryz.prog 98 #[.int .i64 7, .int .i64 n] w fun e w' => e = .returned (.bool (alw 7 n)) ∧ Kp w w' := by
  rw [alw_7]
  go_enter Tryz.func98, Tryz.ntmps98
  go_wp2
  all_goals (go_ret; exact ⟨ret_bool (by simp <;> omega), Kp.refl _⟩)
theorem may_8 (n : Int) (w : World) : Calls Tryz.prog 98 #[.int .i64 8, .int .i64 n] w fun e w' => e = .returned (.bool (alw 8 n)) ∧ Kp w w' := by
  rw [alw_8]
  go_enter Tryz.func98, Tryz.ntmps98
  go_wp2
  all_goals (go_ret; exact ⟨ret_bool (by simp <;> omega), Kp.refl _⟩)
theorem may_0 (n : Int) (w : World) : Calls Tryz.prog 98 #[.int .i64 0, .int .i64 n] w fun e w' => e = .returned (.bool (alw 0 n)) ∧ Kp w w' := by
  rw [alw_0]
  go_enter Tryz.func98, Tryz.ntmps98
  go_wp2
  go_ret
  exact ⟨rfl, Kp.refl _⟩
theorem may_any (w : World) (k n : Int) (b : Bool) (hk : 0 ≤ k ∧ k ≤ 8) (h : alw k n = b) : Calls Tryz.prog 98 #[.int .i64 (rk k), .int .i64 n] w fun e w' => e = .returned (.bool b) ∧ Kp w w' := by
  subst h
  have hk' : k = 0 ∨ k = 1 ∨ k = 2 ∨ k = 3 ∨ k = 4 ∨ k = 5 ∨ k = 6 ∨ k = 7 ∨ k = 8 := by omega
  rcases hk' with rfl | rfl | rfl | rfl | rfl | rfl | rfl | rfl | rfl
  · exact may_0 n w
  · exact may_1 n w
  · exact may_2 n w
  · exact may_3 n w
  · exact may_4 n w
  · exact may_5 n w
  · exact may_6 n w
  · exact may_7 n w
  · exact may_8 n w
theorem has_1 (w : World) : Calls Tryz.prog 59 #[.int .i64 1] w fun e w' => e = .returned (.agg #[.int .i64 0, .int .i64 0, .int .i64 0]) ∧ Kp w w' := by
  go_enter Tryz.func59, Tryz.ntmps59
  go_wp2
  exact bodyPost_ret (v := .agg #[.int .i64 0, .int .i64 0, .int .i64 0]) (by simp [results, Tryz.results59, go_sem]) rfl ⟨rfl, (Kp.refl w).alloc _ _⟩
theorem has_2 (w : World) : Calls Tryz.prog 59 #[.int .i64 2] w fun e w' => e = .returned (.agg #[.int .i64 1, .int .i64 0, .int .i64 0]) ∧ Kp w w' := by
  go_enter Tryz.func59, Tryz.ntmps59
  go_wp2
  exact bodyPost_ret (v := .agg #[.int .i64 1, .int .i64 0, .int .i64 0]) (by simp [results, Tryz.results59, go_sem]) rfl ⟨rfl, (Kp.refl w).alloc _ _⟩
theorem has_3 (w : World) : Calls Tryz.prog 59 #[.int .i64 3] w fun e w' => e = .returned (.agg #[.int .i64 0, .int .i64 0, .int .i64 0]) ∧ Kp w w' := by
  go_enter Tryz.func59, Tryz.ntmps59
  go_wp2
  exact bodyPost_ret (v := .agg #[.int .i64 0, .int .i64 0, .int .i64 0]) (by simp [results, Tryz.results59, go_sem]) rfl ⟨rfl, (Kp.refl w).alloc _ _⟩
theorem has_4 (w : World) : Calls Tryz.prog 59 #[.int .i64 4] w fun e w' => e = .returned (.agg #[.int .i64 2, .int .i64 0, .int .i64 0]) ∧ Kp w w' := by
  go_enter Tryz.func59, Tryz.ntmps59
  go_wp2
  exact bodyPost_ret (v := .agg #[.int .i64 2, .int .i64 0, .int .i64 0]) (by simp [results, Tryz.results59, go_sem]) rfl ⟨rfl, (Kp.refl w).alloc _ _⟩
theorem has_5 (w : World) : Calls Tryz.prog 59 #[.int .i64 5] w fun e w' => e = .returned (.agg #[.int .i64 2, .int .i64 4, .int .i64 0]) ∧ Kp w w' := by
  go_enter Tryz.func59, Tryz.ntmps59
  go_wp2
  exact bodyPost_ret (v := .agg #[.int .i64 2, .int .i64 4, .int .i64 0]) (by simp [results, Tryz.results59, go_sem]) rfl ⟨rfl, (Kp.refl w).alloc _ _⟩
theorem has_6 (w : World) : Calls Tryz.prog 59 #[.int .i64 6] w fun e w' => e = .returned (.agg #[.int .i64 2, .int .i64 3, .int .i64 0]) ∧ Kp w w' := by
  go_enter Tryz.func59, Tryz.ntmps59
  go_wp2
  exact bodyPost_ret (v := .agg #[.int .i64 2, .int .i64 3, .int .i64 0]) (by simp [results, Tryz.results59, go_sem]) rfl ⟨rfl, (Kp.refl w).alloc _ _⟩
theorem has_7 (w : World) : Calls Tryz.prog 59 #[.int .i64 7] w fun e w' => e = .returned (.agg #[.int .i64 2, .int .i64 3, .int .i64 4]) ∧ Kp w w' := by
  go_enter Tryz.func59, Tryz.ntmps59
  go_wp2
  exact bodyPost_ret (v := .agg #[.int .i64 2, .int .i64 3, .int .i64 4]) (by simp [results, Tryz.results59, go_sem]) rfl ⟨rfl, (Kp.refl w).alloc _ _⟩
theorem has_8 (w : World) : Calls Tryz.prog 59 #[.int .i64 8] w fun e w' => e = .returned (.agg #[.int .i64 2, .int .i64 0, .int .i64 0]) ∧ Kp w w' := by
  go_enter Tryz.func59, Tryz.ntmps59
  go_wp2
  exact bodyPost_ret (v := .agg #[.int .i64 2, .int .i64 0, .int .i64 0]) (by simp [results, Tryz.results59, go_sem]) rfl ⟨rfl, (Kp.refl w).alloc _ _⟩
theorem has_9 (w : World) : Calls Tryz.prog 59 #[.int .i64 9] w fun e w' => e = .returned (.agg #[.int .i64 2, .int .i64 4, .int .i64 0]) ∧ Kp w w' := by
  go_enter Tryz.func59, Tryz.ntmps59
  go_wp2
  exact bodyPost_ret (v := .agg #[.int .i64 2, .int .i64 4, .int .i64 0]) (by simp [results, Tryz.results59, go_sem]) rfl ⟨rfl, (Kp.refl w).alloc _ _⟩
theorem has_10 (w : World) : Calls Tryz.prog 59 #[.int .i64 10] w fun e w' => e = .returned (.agg #[.int .i64 2, .int .i64 0, .int .i64 0]) ∧ Kp w w' := by
  go_enter Tryz.func59, Tryz.ntmps59
  go_wp2
  exact bodyPost_ret (v := .agg #[.int .i64 2, .int .i64 0, .int .i64 0]) (by simp [results, Tryz.results59, go_sem]) rfl ⟨rfl, (Kp.refl w).alloc _ _⟩
theorem has_11 (w : World) : Calls Tryz.prog 59 #[.int .i64 11] w fun e w' => e = .returned (.agg #[.int .i64 2, .int .i64 0, .int .i64 0]) ∧ Kp w w' := by
  go_enter Tryz.func59, Tryz.ntmps59
  go_wp2
  exact bodyPost_ret (v := .agg #[.int .i64 2, .int .i64 0, .int .i64 0]) (by simp [results, Tryz.results59, go_sem]) rfl ⟨rfl, (Kp.refl w).alloc _ _⟩
theorem has_12 (w : World) : Calls Tryz.prog 59 #[.int .i64 12] w fun e w' => e = .returned (.agg #[.int .i64 5, .int .i64 0, .int .i64 0]) ∧ Kp w w' := by
  go_enter Tryz.func59, Tryz.ntmps59
  go_wp2
  exact bodyPost_ret (v := .agg #[.int .i64 5, .int .i64 0, .int .i64 0]) (by simp [results, Tryz.results59, go_sem]) rfl ⟨rfl, (Kp.refl w).alloc _ _⟩
theorem has_13 (w : World) : Calls Tryz.prog 59 #[.int .i64 13] w fun e w' => e = .returned (.agg #[.int .i64 6, .int .i64 0, .int .i64 0]) ∧ Kp w w' := by
  go_enter Tryz.func59, Tryz.ntmps59
  go_wp2
  exact bodyPost_ret (v := .agg #[.int .i64 6, .int .i64 0, .int .i64 0]) (by simp [results, Tryz.results59, go_sem]) rfl ⟨rfl, (Kp.refl w).alloc _ _⟩
theorem has_14 (w : World) : Calls Tryz.prog 59 #[.int .i64 14] w fun e w' => e = .returned (.agg #[.int .i64 4, .int .i64 0, .int .i64 0]) ∧ Kp w w' := by
  go_enter Tryz.func59, Tryz.ntmps59
  go_wp2
  exact bodyPost_ret (v := .agg #[.int .i64 4, .int .i64 0, .int .i64 0]) (by simp [results, Tryz.results59, go_sem]) rfl ⟨rfl, (Kp.refl w).alloc _ _⟩
theorem has_15 (w : World) : Calls Tryz.prog 59 #[.int .i64 15] w fun e w' => e = .returned (.agg #[.int .i64 2, .int .i64 0, .int .i64 0]) ∧ Kp w w' := by
  go_enter Tryz.func59, Tryz.ntmps59
  go_wp2
  exact bodyPost_ret (v := .agg #[.int .i64 2, .int .i64 0, .int .i64 0]) (by simp [results, Tryz.results59, go_sem]) rfl ⟨rfl, (Kp.refl w).alloc _ _⟩
theorem has_16 (w : World) : Calls Tryz.prog 59 #[.int .i64 16] w fun e w' => e = .returned (.agg #[.int .i64 2, .int .i64 0, .int .i64 0]) ∧ Kp w w' := by
  go_enter Tryz.func59, Tryz.ntmps59
  go_wp2
  exact bodyPost_ret (v := .agg #[.int .i64 2, .int .i64 0, .int .i64 0]) (by simp [results, Tryz.results59, go_sem]) rfl ⟨rfl, (Kp.refl w).alloc _ _⟩
theorem has_17 (w : World) : Calls Tryz.prog 59 #[.int .i64 17] w fun e w' => e = .returned (.agg #[.int .i64 2, .int .i64 0, .int .i64 0]) ∧ Kp w w' := by
  go_enter Tryz.func59, Tryz.ntmps59
  go_wp2
  exact bodyPost_ret (v := .agg #[.int .i64 2, .int .i64 0, .int .i64 0]) (by simp [results, Tryz.results59, go_sem]) rfl ⟨rfl, (Kp.refl w).alloc _ _⟩
theorem has_18 (w : World) : Calls Tryz.prog 59 #[.int .i64 18] w fun e w' => e = .returned (.agg #[.int .i64 0, .int .i64 0, .int .i64 0]) ∧ Kp w w' := by
  go_enter Tryz.func59, Tryz.ntmps59
  go_wp2
  exact bodyPost_ret (v := .agg #[.int .i64 0, .int .i64 0, .int .i64 0]) (by simp [results, Tryz.results59, go_sem]) rfl ⟨rfl, (Kp.refl w).alloc _ _⟩
theorem has_19 (w : World) : Calls Tryz.prog 59 #[.int .i64 19] w fun e w' => e = .returned (.agg #[.int .i64 7, .int .i64 0, .int .i64 0]) ∧ Kp w w' := by
  go_enter Tryz.func59, Tryz.ntmps59
  go_wp2
  exact bodyPost_ret (v := .agg #[.int .i64 7, .int .i64 0, .int .i64 0]) (by simp [results, Tryz.results59, go_sem]) rfl ⟨rfl, (Kp.refl w).alloc _ _⟩
theorem has_20 (w : World) : Calls Tryz.prog 59 #[.int .i64 20] w fun e w' => e = .returned (.agg #[.int .i64 7, .int .i64 0, .int .i64 0]) ∧ Kp w w' := by
  go_enter Tryz.func59, Tryz.ntmps59
  go_wp2
  exact bodyPost_ret (v := .agg #[.int .i64 7, .int .i64 0, .int .i64 0]) (by simp [results, Tryz.results59, go_sem]) rfl ⟨rfl, (Kp.refl w).alloc _ _⟩
theorem has_21 (w : World) : Calls Tryz.prog 59 #[.int .i64 21] w fun e w' => e = .returned (.agg #[.int .i64 8, .int .i64 0, .int .i64 0]) ∧ Kp w w' := by
  go_enter Tryz.func59, Tryz.ntmps59
  go_wp2
  exact bodyPost_ret (v := .agg #[.int .i64 8, .int .i64 0, .int .i64 0]) (by simp [results, Tryz.results59, go_sem]) rfl ⟨rfl, (Kp.refl w).alloc _ _⟩
theorem has_22 (w : World) : Calls Tryz.prog 59 #[.int .i64 22] w fun e w' => e = .returned (.agg #[.int .i64 0, .int .i64 0, .int .i64 0]) ∧ Kp w w' := by
  go_enter Tryz.func59, Tryz.ntmps59
  go_wp2
  exact bodyPost_ret (v := .agg #[.int .i64 0, .int .i64 0, .int .i64 0]) (by simp [results, Tryz.results59, go_sem]) rfl ⟨rfl, (Kp.refl w).alloc _ _⟩
theorem has_23 (w : World) : Calls Tryz.prog 59 #[.int .i64 23] w fun e w' => e = .returned (.agg #[.int .i64 2, .int .i64 0, .int .i64 0]) ∧ Kp w w' := by
  go_enter Tryz.func59, Tryz.ntmps59
  go_wp2
  exact bodyPost_ret (v := .agg #[.int .i64 2, .int .i64 0, .int .i64 0]) (by simp [results, Tryz.results59, go_sem]) rfl ⟨rfl, (Kp.refl w).alloc _ _⟩
theorem has_24 (w : World) : Calls Tryz.prog 59 #[.int .i64 24] w fun e w' => e = .returned (.agg #[.int .i64 2, .int .i64 0, .int .i64 0]) ∧ Kp w w' := by
  go_enter Tryz.func59, Tryz.ntmps59
  go_wp2
  exact bodyPost_ret (v := .agg #[.int .i64 2, .int .i64 0, .int .i64 0]) (by simp [results, Tryz.results59, go_sem]) rfl ⟨rfl, (Kp.refl w).alloc _ _⟩
theorem has_lo (op : Int) (w : World) (h : op < 1) : Calls Tryz.prog 59 #[.int .i64 op] w fun e w' => e = .returned (.agg #[.int .i64 0, .int .i64 0, .int .i64 0]) ∧ Kp w w' := by
  go_enter Tryz.func59, Tryz.ntmps59
  go_wp2
  exact bodyPost_ret (v := .agg #[.int .i64 0, .int .i64 0, .int .i64 0]) (by simp [results, Tryz.results59, go_sem]) rfl ⟨rfl, (Kp.refl w).alloc _ _⟩
theorem has_hi (op : Int) (w : World) (h : 24 < op) : Calls Tryz.prog 59 #[.int .i64 op] w fun e w' => e = .returned (.agg #[.int .i64 0, .int .i64 0, .int .i64 0]) ∧ Kp w w' := by
  go_enter Tryz.func59, Tryz.ntmps59
  go_wp2
  exact bodyPost_ret (v := .agg #[.int .i64 0, .int .i64 0, .int .i64 0]) (by simp [results, Tryz.results59, go_sem]) rfl ⟨rfl, (Kp.refl w).alloc _ _⟩
theorem has_any (w : World) (op : Int) (nm : List UInt8) (a b c tk gv : Int) (jm sp : Bool) (h : rowAt op = ⟨nm, a, b, c, tk, gv, jm, sp⟩) :
    Calls Tryz.prog 59 #[.int .i64 op] w fun e w' => e = .returned (.agg #[.int .i64 (rk a), .int .i64 (rk b), .int .i64 (rk c)]) ∧ Kp w w' := by
  by_cases hlo : op < 1
  · have : rowAt op = r0 := by
      by_cases h0 : op = 0
      · subst h0; rfl
      · exact rowAt_out (by omega)
    rw [this] at h
    cases h
    exact has_lo op w hlo
  by_cases hhi : 24 < op
  · rw [rowAt_out (by omega)] at h
    cases h
    exact has_hi op w hhi
  have hop : op = 1 ∨ op = 2 ∨ op = 3 ∨ op = 4 ∨ op = 5 ∨ op = 6 ∨ op = 7 ∨ op = 8 ∨ op = 9 ∨ op = 10 ∨ op = 11 ∨ op = 12 ∨ op = 13 ∨ op = 14 ∨ op = 15 ∨ op = 16 ∨ op = 17 ∨ op = 18 ∨ op = 19 ∨ op = 20 ∨ op = 21 ∨ op = 22 ∨ op = 23 ∨ op = 24 := by omega
  rcases hop with rfl | rfl | rfl | rfl | rfl | rfl | rfl | rfl | rfl | rfl | rfl | rfl | rfl | rfl | rfl | rfl | rfl | rfl | rfl | rfl | rfl | rfl | rfl | rfl
  · cases h; exact has_1 w
  · cases h; exact has_2 w
  · cases h; exact has_3 w
  · cases h; exact has_4 w
  · cases h; exact has_5 w
  · cases h; exact has_6 w
  · cases h; exact has_7 w
  · cases h; exact has_8 w
  · cases h; exact has_9 w
  · cases h; exact has_10 w
  · cases h; exact has_11 w
  · cases h; exact has_12 w
  · cases h; exact has_13 w
  · cases h; exact has_14 w
  · cases h; exact has_15 w
  · cases h; exact has_16 w
  · cases h; exact has_17 w
  · cases h; exact has_18 w
  · cases h; exact has_19 w
  · cases h; exact has_20 w
  · cases h; exact has_21 w
  · cases h; exact has_22 w
  · cases h; exact has_23 w
  · cases h; exact has_24 w

def tri (a b c : Int) : Nat → Int := sel3 a b c
theorem tri_new (w : World) (a b c : Int) : Nums (w.alloc (.cells #[.int .i64 a, .int .i64 b, .int .i64 c] 95)) w.heap.size (sel3 a b c) := ⟨by simp, fun j hj => by
    obtain rfl | rfl | rfl : j = 0 ∨ j = 1 ∨ j = 2 := by omega
    · simp [sel3]
    · simp [sel3]
    · simp [sel3], fun j => by simp⟩
theorem rCheck_out {w : World} (op x y z : Int) (h : op < 1 ∨ 24 < op) :
    Calls Tryz.prog 61 #[.agg #[.int .i64 op, .int .i64 x, .int .i64 y, .int .i64 z]] w fun e w' => e = .returned (.int .i64 2) ∧ Kp w w' := by
  rcases h with h | h
  · go_enter Tryz.func61, Tryz.ntmps61
    go_wp2_with fail
    refine (has_lo op _ h).mono ?_
    rintro e w1 ⟨rfl, k1⟩
    have c1 := k1.cells
    have z1 := size_alloc k1
    go_wp2
    go_ret
    exact ⟨rfl, (((Kp.refl w).alloc _ _).trans k1).alloc _ _⟩
  · go_enter Tryz.func61, Tryz.ntmps61
    go_wp2_with fail
    refine (has_hi op _ h).mono ?_
    rintro e w1 ⟨rfl, k1⟩
    have c1 := k1.cells
    have z1 := size_alloc k1
    go_wp2
    go_ret
    exact ⟨rfl, (((Kp.refl w).alloc _ _).trans k1).alloc _ _⟩

set_option maxHeartbeats 2000000 in
set_option maxRecDepth 100000 in
theorem rCheck_a {w : World} (op x y z : Int) (nm : List UInt8) (a b c tk gv : Int) (jm sp : Bool) (h : rowAt op = ⟨nm, a, b, c, tk, gv, jm, sp⟩) (ka : 0 ≤ a ∧ a ≤ 8) (kb : 0 ≤ b ∧ b ≤ 8) (kc : 0 ≤ c ∧ c ≤ 8)
    (ho : 1 ≤ op) (ho2 : op ≤ 24) (ha : alw a x = false) :
    Calls Tryz.prog 61 #[.agg #[.int .i64 op, .int .i64 x, .int .i64 y, .int .i64 z]] w fun e w' => e = .returned (.int .i64 2) ∧ Kp w w' := by
  have H := Lib.hid h
  have HA := Lib.hid ha
  clear h ha
  go_enter Tryz.func61, Tryz.ntmps61
  go_wp2_with fail
  refine (has_any _ op nm a b c tk gv jm sp H.out).mono ?_
  rintro e w1 ⟨rfl, k1⟩
  have K1 := (((Kp.refl w).alloc _ _).trans k1).alloc #[.int .i64 (rk a), .int .i64 (rk b), .int .i64 (rk c)] 95
  have b1 := (Box.new w op x y z).kp k1
  have bx := b1.kp ((Kp.refl w1).alloc #[.int .i64 (rk a), .int .i64 (rk b), .int .i64 (rk c)] 95)
  have nx := tri_new w1 (rk a) (rk b) (rk c)
  clear k1
  obtain ⟨si, i0, i1, i2, i3, iu⟩ := b1
  go_wp2_with fail
  refine (may_any _ a x _ ka HA.out).mono ?_
  rintro e w2 ⟨rfl, k2⟩
  go_wp2
  go_ret
  exact ⟨rfl, K1.trans k2⟩

set_option maxHeartbeats 2000000 in
set_option maxRecDepth 100000 in
theorem rCheck_b {w : World} (op x y z : Int) (nm : List UInt8) (a b c tk gv : Int) (jm sp : Bool) (h : rowAt op = ⟨nm, a, b, c, tk, gv, jm, sp⟩) (ka : 0 ≤ a ∧ a ≤ 8) (kb : 0 ≤ b ∧ b ≤ 8) (kc : 0 ≤ c ∧ c ≤ 8)
    (ho : 1 ≤ op) (ho2 : op ≤ 24) (ha : alw a x = true) (hb : alw b y = false) :
    Calls Tryz.prog 61 #[.agg #[.int .i64 op, .int .i64 x, .int .i64 y, .int .i64 z]] w fun e w' => e = .returned (.int .i64 2) ∧ Kp w w' := by
  have H := Lib.hid h
  have HA := Lib.hid ha
  have HB := Lib.hid hb
  clear h ha hb
  go_enter Tryz.func61, Tryz.ntmps61
  go_wp2_with fail
  refine (has_any _ op nm a b c tk gv jm sp H.out).mono ?_
  rintro e w1 ⟨rfl, k1⟩
  have K1 := (((Kp.refl w).alloc _ _).trans k1).alloc #[.int .i64 (rk a), .int .i64 (rk b), .int .i64 (rk c)] 95
  have b1 := (Box.new w op x y z).kp k1
  have bx := b1.kp ((Kp.refl w1).alloc #[.int .i64 (rk a), .int .i64 (rk b), .int .i64 (rk c)] 95)
  have nx := tri_new w1 (rk a) (rk b) (rk c)
  clear k1
  obtain ⟨si, i0, i1, i2, i3, iu⟩ := b1
  go_wp2_with fail
  refine (may_any _ a x _ ka HA.out).mono ?_
  rintro e w2 ⟨rfl, k2⟩
  have K2 := K1.trans k2
  have bx2 := bx.kp k2
  have nx2 := nx.kp k2
  clear bx nx k2 si i0 i1 i2 i3 iu K1
  have bx := bx2
  have nx := nx2
  obtain ⟨si, i0, i1, i2, i3, iu⟩ := bx2
  obtain ⟨sn, nc, nu⟩ := nx2
  have n0 := nc 0 (by omega)
  have n1 := nc 1 (by omega)
  have n2 := nc 2 (by omega)
  simp only [sel3] at n0 n1 n2
  clear nc
  go_wp2_with fail
  refine (may_any _ b y _ kb HB.out).mono ?_
  rintro e w3 ⟨rfl, k3⟩
  go_wp2
  go_ret
  exact ⟨rfl, K2.trans k3⟩

set_option maxHeartbeats 2000000 in
set_option maxRecDepth 100000 in
theorem rCheck_c {w : World} (op x y z : Int) (nm : List UInt8) (a b c tk gv : Int) (jm sp : Bool) (h : rowAt op = ⟨nm, a, b, c, tk, gv, jm, sp⟩) (ka : 0 ≤ a ∧ a ≤ 8) (kb : 0 ≤ b ∧ b ≤ 8) (kc : 0 ≤ c ∧ c ≤ 8)
    (ho : 1 ≤ op) (ho2 : op ≤ 24) (ha : alw a x = true) (hb : alw b y = true) (hc : alw c z = false) :
    Calls Tryz.prog 61 #[.agg #[.int .i64 op, .int .i64 x, .int .i64 y, .int .i64 z]] w fun e w' => e = .returned (.int .i64 2) ∧ Kp w w' := by
  have H := Lib.hid h
  have HA := Lib.hid ha
  have HB := Lib.hid hb
  have HC := Lib.hid hc
  clear h ha hb hc
  go_enter Tryz.func61, Tryz.ntmps61
  go_wp2_with fail
  refine (has_any _ op nm a b c tk gv jm sp H.out).mono ?_
  rintro e w1 ⟨rfl, k1⟩
  have K1 := (((Kp.refl w).alloc _ _).trans k1).alloc #[.int .i64 (rk a), .int .i64 (rk b), .int .i64 (rk c)] 95
  have b1 := (Box.new w op x y z).kp k1
  have bx := b1.kp ((Kp.refl w1).alloc #[.int .i64 (rk a), .int .i64 (rk b), .int .i64 (rk c)] 95)
  have nx := tri_new w1 (rk a) (rk b) (rk c)
  clear k1
  obtain ⟨si, i0, i1, i2, i3, iu⟩ := b1
  go_wp2_with fail
  refine (may_any _ a x _ ka HA.out).mono ?_
  rintro e w2 ⟨rfl, k2⟩
  have K2 := K1.trans k2
  have bx2 := bx.kp k2
  have nx2 := nx.kp k2
  clear bx nx k2 si i0 i1 i2 i3 iu K1
  have bx := bx2
  have nx := nx2
  obtain ⟨si, i0, i1, i2, i3, iu⟩ := bx2
  obtain ⟨sn, nc, nu⟩ := nx2
  have n0 := nc 0 (by omega)
  have n1 := nc 1 (by omega)
  have n2 := nc 2 (by omega)
  simp only [sel3] at n0 n1 n2
  clear nc
  go_wp2_with fail
  refine (may_any _ b y _ kb HB.out).mono ?_
  rintro e w3 ⟨rfl, k3⟩
  have K3 := K2.trans k3
  have bx3 := bx.kp k3
  have nx3 := nx.kp k3
  clear bx nx k3 si i0 i1 i2 i3 iu K2
  clear n0 n1 n2 sn nu
  have bx := bx3
  have nx := nx3
  obtain ⟨si, i0, i1, i2, i3, iu⟩ := bx3
  obtain ⟨sn, nc, nu⟩ := nx3
  have n0 := nc 0 (by omega)
  have n1 := nc 1 (by omega)
  have n2 := nc 2 (by omega)
  simp only [sel3] at n0 n1 n2
  clear nc
  go_wp2_with fail
  refine (may_any _ c z _ kc HC.out).mono ?_
  rintro e w4 ⟨rfl, k4⟩
  go_wp2
  go_ret
  exact ⟨rfl, K3.trans k4⟩

set_option maxHeartbeats 2000000 in
set_option maxRecDepth 100000 in
theorem rCheck_ok {w : World} (op x y z : Int) (nm : List UInt8) (a b c tk gv : Int) (jm sp : Bool) (h : rowAt op = ⟨nm, a, b, c, tk, gv, jm, sp⟩) (ka : 0 ≤ a ∧ a ≤ 8) (kb : 0 ≤ b ∧ b ≤ 8) (kc : 0 ≤ c ∧ c ≤ 8)
    (ho : 1 ≤ op) (ho2 : op ≤ 24) (ha : alw a x = true) (hb : alw b y = true) (hc : alw c z = true) :
    Calls Tryz.prog 61 #[.agg #[.int .i64 op, .int .i64 x, .int .i64 y, .int .i64 z]] w fun e w' => e = .returned (.int .i64 0) ∧ Kp w w' := by
  have H := Lib.hid h
  have HA := Lib.hid ha
  have HB := Lib.hid hb
  have HC := Lib.hid hc
  clear h ha hb hc
  go_enter Tryz.func61, Tryz.ntmps61
  go_wp2_with fail
  refine (has_any _ op nm a b c tk gv jm sp H.out).mono ?_
  rintro e w1 ⟨rfl, k1⟩
  have K1 := (((Kp.refl w).alloc _ _).trans k1).alloc #[.int .i64 (rk a), .int .i64 (rk b), .int .i64 (rk c)] 95
  have b1 := (Box.new w op x y z).kp k1
  have bx := b1.kp ((Kp.refl w1).alloc #[.int .i64 (rk a), .int .i64 (rk b), .int .i64 (rk c)] 95)
  have nx := tri_new w1 (rk a) (rk b) (rk c)
  clear k1
  obtain ⟨si, i0, i1, i2, i3, iu⟩ := b1
  go_wp2_with fail
  refine (may_any _ a x _ ka HA.out).mono ?_
  rintro e w2 ⟨rfl, k2⟩
  have K2 := K1.trans k2
  have bx2 := bx.kp k2
  have nx2 := nx.kp k2
  clear bx nx k2 si i0 i1 i2 i3 iu K1
  have bx := bx2
  have nx := nx2
  obtain ⟨si, i0, i1, i2, i3, iu⟩ := bx2
  obtain ⟨sn, nc, nu⟩ := nx2
  have n0 := nc 0 (by omega)
  have n1 := nc 1 (by omega)
  have n2 := nc 2 (by omega)
  simp only [sel3] at n0 n1 n2
  clear nc
  go_wp2_with fail
  refine (may_any _ b y _ kb HB.out).mono ?_
  rintro e w3 ⟨rfl, k3⟩
  have K3 := K2.trans k3
  have bx3 := bx.kp k3
  have nx3 := nx.kp k3
  clear bx nx k3 si i0 i1 i2 i3 iu K2
  clear n0 n1 n2 sn nu
  have bx := bx3
  have nx := nx3
  obtain ⟨si, i0, i1, i2, i3, iu⟩ := bx3
  obtain ⟨sn, nc, nu⟩ := nx3
  have n0 := nc 0 (by omega)
  have n1 := nc 1 (by omega)
  have n2 := nc 2 (by omega)
  simp only [sel3] at n0 n1 n2
  clear nc
  go_wp2_with fail
  refine (may_any _ c z _ kc HC.out).mono ?_
  rintro e w4 ⟨rfl, k4⟩
  go_wp2
  go_ret
  exact ⟨rfl, K3.trans k4⟩

theorem rCheck_any (w : World) (op x y z e : Int) (he : chkE ⟨op, x, y, z⟩ = e) :
    Calls Tryz.prog 61 #[.agg #[.int .i64 op, .int .i64 x, .int .i64 y, .int .i64 z]] w fun r w' => r = .returned (.int .i64 e) ∧ Kp w w' := by
  rw [← he]
  by_cases ho : 1 ≤ op ∧ op ≤ 24
  · have kk := kinds_in op
    unfold chkE chk
    simp only [decide_eq_true ho, Bool.true_and]
    generalize hr : rowAt op = r at *
    obtain ⟨nm, a, b, c, tk, gv, jm, sp⟩ := r
    simp only at kk ⊢
    cases ha : alw a x with
    | false => exact rCheck_a op x y z nm a b c tk gv jm sp hr kk.1 kk.2.1 kk.2.2.1 ho.1 ho.2 ha
    | true =>
      cases hb : alw b y with
      | false => exact rCheck_b op x y z nm a b c tk gv jm sp hr kk.1 kk.2.1 kk.2.2.1 ho.1 ho.2 ha hb
      | true =>
        cases hc : alw c z with
        | false => exact rCheck_c op x y z nm a b c tk gv jm sp hr kk.1 kk.2.1 kk.2.2.1 ho.1 ho.2 ha hb hc
        | true => exact rCheck_ok op x y z nm a b c tk gv jm sp hr kk.1 kk.2.1 kk.2.2.1 ho.1 ho.2 ha hb hc
  · have e : chkE ⟨op, x, y, z⟩ = 2 := by
      refine chkE_no ?_
      unfold chk
      simp only [decide_eq_false ho, Bool.false_and]
    rw [e]
    exact rCheck_out op x y z (by omega)
theorem rNames_any (w : World) : Calls Tryz.prog 58 #[] w fun e w' => e = .returned (.slice (some ⟨w.heap.size, 0, none⟩) 24 24) ∧ Scs w' w.heap.size 0 namesL ∧ Kp w w' := by
  go_enter Tryz.func58, Tryz.ntmps58
  go_wp2
  go_ret
  refine ⟨rfl, ⟨by simp, fun i hi => ?_⟩, (Kp.refl w).alloc _ _⟩
  have hi' : i < 24 := hi
  have hcase : i = 0 ∨ i = 1 ∨ i = 2 ∨ i = 3 ∨ i = 4 ∨ i = 5 ∨ i = 6 ∨ i = 7 ∨ i = 8 ∨ i = 9 ∨ i = 10 ∨ i = 11 ∨ i = 12 ∨ i = 13 ∨ i = 14 ∨ i = 15 ∨ i = 16 ∨ i = 17 ∨ i = 18 ∨ i = 19 ∨ i = 20 ∨ i = 21 ∨ i = 22 ∨ i = 23 := by omega
  rcases hcase with rfl | rfl | rfl | rfl | rfl | rfl | rfl | rfl | rfl | rfl | rfl | rfl | rfl | rfl | rfl | rfl | rfl | rfl | rfl | rfl | rfl | rfl | rfl | rfl
  all_goals (simp; rfl)
end Co
end Go.Proofs.YtaeblnlbelebkaaGreatDoor
