/-
  WALKS: the document's own symbols and names of operators. Own work.
-/
import Derived.Test.YtehmpakcfahmaaaDoorCoWord
namespace Go.Proofs.YtehmpakcfahmaaaDoor
namespace Co
open Go.RowKit Go
set_option linter.unusedVariables false

theorem rSign_1 (w : World) :
    Calls Tryd.prog 34 #[.int .i64 1] w fun e w' => e = .returned (.string (bytesOf (signL 1))) ∧ Kp w w' := by
  go_enter Tryd.func34, Tryd.ntmps34
  go_wp2
  go_ret
  exact ⟨rfl, (Kp.refl w).alloc _ _⟩

theorem rSign_2 (w : World) :
    Calls Tryd.prog 34 #[.int .i64 2] w fun e w' => e = .returned (.string (bytesOf (signL 2))) ∧ Kp w w' := by
  go_enter Tryd.func34, Tryd.ntmps34
  go_wp2
  go_ret
  exact ⟨rfl, (Kp.refl w).alloc _ _⟩

theorem rSign_3 (w : World) :
    Calls Tryd.prog 34 #[.int .i64 3] w fun e w' => e = .returned (.string (bytesOf (signL 3))) ∧ Kp w w' := by
  go_enter Tryd.func34, Tryd.ntmps34
  go_wp2
  go_ret
  exact ⟨rfl, (Kp.refl w).alloc _ _⟩

theorem rSign_4 (w : World) :
    Calls Tryd.prog 34 #[.int .i64 4] w fun e w' => e = .returned (.string (bytesOf (signL 4))) ∧ Kp w w' := by
  go_enter Tryd.func34, Tryd.ntmps34
  go_wp2
  go_ret
  exact ⟨rfl, (Kp.refl w).alloc _ _⟩

theorem rSign_5 (w : World) :
    Calls Tryd.prog 34 #[.int .i64 5] w fun e w' => e = .returned (.string (bytesOf (signL 5))) ∧ Kp w w' := by
  go_enter Tryd.func34, Tryd.ntmps34
  go_wp2
  go_ret
  exact ⟨rfl, (Kp.refl w).alloc _ _⟩

theorem rSign_6 (w : World) :
    Calls Tryd.prog 34 #[.int .i64 6] w fun e w' => e = .returned (.string (bytesOf (signL 6))) ∧ Kp w w' := by
  go_enter Tryd.func34, Tryd.ntmps34
  go_wp2
  go_ret
  exact ⟨rfl, (Kp.refl w).alloc _ _⟩

theorem rSign_7 (w : World) :
    Calls Tryd.prog 34 #[.int .i64 7] w fun e w' => e = .returned (.string (bytesOf (signL 7))) ∧ Kp w w' := by
  go_enter Tryd.func34, Tryd.ntmps34
  go_wp2
  go_ret
  exact ⟨rfl, (Kp.refl w).alloc _ _⟩

theorem rSign_8 (w : World) :
    Calls Tryd.prog 34 #[.int .i64 8] w fun e w' => e = .returned (.string (bytesOf (signL 8))) ∧ Kp w w' := by
  go_enter Tryd.func34, Tryd.ntmps34
  go_wp2
  go_ret
  exact ⟨rfl, (Kp.refl w).alloc _ _⟩

theorem rSign_9 (w : World) :
    Calls Tryd.prog 34 #[.int .i64 9] w fun e w' => e = .returned (.string (bytesOf (signL 9))) ∧ Kp w w' := by
  go_enter Tryd.func34, Tryd.ntmps34
  go_wp2
  go_ret
  exact ⟨rfl, (Kp.refl w).alloc _ _⟩

theorem rSign_10 (w : World) :
    Calls Tryd.prog 34 #[.int .i64 10] w fun e w' => e = .returned (.string (bytesOf (signL 10))) ∧ Kp w w' := by
  go_enter Tryd.func34, Tryd.ntmps34
  go_wp2
  go_ret
  exact ⟨rfl, (Kp.refl w).alloc _ _⟩

theorem rSign_11 (w : World) :
    Calls Tryd.prog 34 #[.int .i64 11] w fun e w' => e = .returned (.string (bytesOf (signL 11))) ∧ Kp w w' := by
  go_enter Tryd.func34, Tryd.ntmps34
  go_wp2
  go_ret
  exact ⟨rfl, (Kp.refl w).alloc _ _⟩

theorem rSign_12 (w : World) :
    Calls Tryd.prog 34 #[.int .i64 12] w fun e w' => e = .returned (.string (bytesOf (signL 12))) ∧ Kp w w' := by
  go_enter Tryd.func34, Tryd.ntmps34
  go_wp2
  go_ret
  exact ⟨rfl, (Kp.refl w).alloc _ _⟩

theorem rSign_13 (w : World) :
    Calls Tryd.prog 34 #[.int .i64 13] w fun e w' => e = .returned (.string (bytesOf (signL 13))) ∧ Kp w w' := by
  go_enter Tryd.func34, Tryd.ntmps34
  go_wp2
  go_ret
  exact ⟨rfl, (Kp.refl w).alloc _ _⟩

theorem rSign_14 (w : World) :
    Calls Tryd.prog 34 #[.int .i64 14] w fun e w' => e = .returned (.string (bytesOf (signL 14))) ∧ Kp w w' := by
  go_enter Tryd.func34, Tryd.ntmps34
  go_wp2
  go_ret
  exact ⟨rfl, (Kp.refl w).alloc _ _⟩

theorem rSign_15 (w : World) :
    Calls Tryd.prog 34 #[.int .i64 15] w fun e w' => e = .returned (.string (bytesOf (signL 15))) ∧ Kp w w' := by
  go_enter Tryd.func34, Tryd.ntmps34
  go_wp2
  go_ret
  exact ⟨rfl, (Kp.refl w).alloc _ _⟩

theorem rSign_16 (w : World) :
    Calls Tryd.prog 34 #[.int .i64 16] w fun e w' => e = .returned (.string (bytesOf (signL 16))) ∧ Kp w w' := by
  go_enter Tryd.func34, Tryd.ntmps34
  go_wp2
  go_ret
  exact ⟨rfl, (Kp.refl w).alloc _ _⟩

theorem rSign_17 (w : World) :
    Calls Tryd.prog 34 #[.int .i64 17] w fun e w' => e = .returned (.string (bytesOf (signL 17))) ∧ Kp w w' := by
  go_enter Tryd.func34, Tryd.ntmps34
  go_wp2
  go_ret
  exact ⟨rfl, (Kp.refl w).alloc _ _⟩

theorem rSign_18 (w : World) :
    Calls Tryd.prog 34 #[.int .i64 18] w fun e w' => e = .returned (.string (bytesOf (signL 18))) ∧ Kp w w' := by
  go_enter Tryd.func34, Tryd.ntmps34
  go_wp2
  go_ret
  exact ⟨rfl, (Kp.refl w).alloc _ _⟩

theorem rSign_19 (w : World) :
    Calls Tryd.prog 34 #[.int .i64 19] w fun e w' => e = .returned (.string (bytesOf (signL 19))) ∧ Kp w w' := by
  go_enter Tryd.func34, Tryd.ntmps34
  go_wp2
  go_ret
  exact ⟨rfl, (Kp.refl w).alloc _ _⟩

theorem rSign_lo (op : Int) (w : World) (h : op < 1) :
    Calls Tryd.prog 34 #[.int .i64 op] w fun e w' => e = .returned (.string (bytesOf [])) ∧ Kp w w' := by
  go_enter Tryd.func34, Tryd.ntmps34
  go_wp2
  go_ret
  exact ⟨rfl, (Kp.refl w).alloc _ _⟩

theorem rSign_hi (op : Int) (w : World) (h : 19 < op) :
    Calls Tryd.prog 34 #[.int .i64 op] w fun e w' => e = .returned (.string (bytesOf [])) ∧ Kp w w' := by
  go_enter Tryd.func34, Tryd.ntmps34
  go_wp2
  go_ret
  exact ⟨rfl, (Kp.refl w).alloc _ _⟩

theorem rSign_any (op : Int) (w : World) :
    Calls Tryd.prog 34 #[.int .i64 op] w fun e w' => e = .returned (.string (bytesOf (signL op))) ∧ Kp w w' := by
  by_cases h : op < 1 ∨ 19 < op
  · have e : signL op = [] := by unfold signL; rw [if_pos h]
    rw [e]
    rcases h with h | h
    · exact rSign_lo op w h
    · exact rSign_hi op w h
  · have hop : op = 1 ∨ op = 2 ∨ op = 3 ∨ op = 4 ∨ op = 5 ∨ op = 6 ∨ op = 7 ∨ op = 8 ∨ op = 9 ∨ op = 10 ∨ op = 11 ∨ op = 12 ∨ op = 13 ∨ op = 14 ∨ op = 15 ∨ op = 16 ∨ op = 17 ∨ op = 18 ∨ op = 19 := by omega
    rcases hop with rfl | rfl | rfl | rfl | rfl | rfl | rfl | rfl | rfl | rfl | rfl | rfl | rfl | rfl | rfl | rfl | rfl | rfl | rfl
    · exact rSign_1 w
    · exact rSign_2 w
    · exact rSign_3 w
    · exact rSign_4 w
    · exact rSign_5 w
    · exact rSign_6 w
    · exact rSign_7 w
    · exact rSign_8 w
    · exact rSign_9 w
    · exact rSign_10 w
    · exact rSign_11 w
    · exact rSign_12 w
    · exact rSign_13 w
    · exact rSign_14 w
    · exact rSign_15 w
    · exact rSign_16 w
    · exact rSign_17 w
    · exact rSign_18 w
    · exact rSign_19 w

theorem rName_1 (w : World) :
    Calls Tryd.prog 35 #[.int .i64 1] w fun e w' => e = .returned (.string (bytesOf (nameL 1))) ∧ Kp w w' := by
  go_enter Tryd.func35, Tryd.ntmps35
  go_wp2
  go_ret
  exact ⟨rfl, (Kp.refl w).alloc _ _⟩

theorem rName_2 (w : World) :
    Calls Tryd.prog 35 #[.int .i64 2] w fun e w' => e = .returned (.string (bytesOf (nameL 2))) ∧ Kp w w' := by
  go_enter Tryd.func35, Tryd.ntmps35
  go_wp2
  go_ret
  exact ⟨rfl, (Kp.refl w).alloc _ _⟩

theorem rName_3 (w : World) :
    Calls Tryd.prog 35 #[.int .i64 3] w fun e w' => e = .returned (.string (bytesOf (nameL 3))) ∧ Kp w w' := by
  go_enter Tryd.func35, Tryd.ntmps35
  go_wp2
  go_ret
  exact ⟨rfl, (Kp.refl w).alloc _ _⟩

theorem rName_lo (op : Int) (w : World) (h : op < 1) :
    Calls Tryd.prog 35 #[.int .i64 op] w fun e w' => e = .returned (.string (bytesOf [])) ∧ Kp w w' := by
  go_enter Tryd.func35, Tryd.ntmps35
  go_wp2
  go_ret
  exact ⟨rfl, (Kp.refl w).alloc _ _⟩

theorem rName_hi (op : Int) (w : World) (h : 3 < op) :
    Calls Tryd.prog 35 #[.int .i64 op] w fun e w' => e = .returned (.string (bytesOf [])) ∧ Kp w w' := by
  go_enter Tryd.func35, Tryd.ntmps35
  go_wp2
  go_ret
  exact ⟨rfl, (Kp.refl w).alloc _ _⟩

theorem rName_any (op : Int) (w : World) :
    Calls Tryd.prog 35 #[.int .i64 op] w fun e w' => e = .returned (.string (bytesOf (nameL op))) ∧ Kp w w' := by
  by_cases h : op < 1 ∨ 3 < op
  · have e : nameL op = [] := by unfold nameL; rw [if_pos h]
    rw [e]
    rcases h with h | h
    · exact rName_lo op w h
    · exact rName_hi op w h
  · have hop : op = 1 ∨ op = 2 ∨ op = 3 := by omega
    rcases hop with rfl | rfl | rfl
    · exact rName_1 w
    · exact rName_2 w
    · exact rName_3 w
end Co
end Go.Proofs.YtehmpakcfahmaaaDoor
