/-
  WALKS: two slices of the 24 names are the same texts. Own work.
-/
import Derived.Test.YtehmpakcfahmaaaDoorCoNames
import Derived.BigQuiet
namespace Go.Proofs.YtehmpakcfahmaaaDoor
namespace Co
open Go.RowKit Go
set_option linter.unusedVariables false

set_option maxHeartbeats 2000000 in
set_option maxRecDepth 100000 in
theorem Texts_yes (w : World) (A B ca cb : Nat) (hA : Scs w A 0 namesL) (hB : Scs w B 0 namesL) :
    Calls Tryd.prog 21 #[.slice (some ⟨A, 0, none⟩) 24 ca, .slice (some ⟨B, 0, none⟩) 24 cb] w (Yes w) := by
  have HA := Lib.hid hA
  have HB := Lib.hid hB
  clear hA hB
  go_enter Tryd.func21, Tryd.ntmps21
  go_wp2
  go_loopw [5] (fun i wr => ∃ k : Nat, k ≤ 24 ∧ i = .int .i64 k ∧ Kp w wr) (fun i _ => 24 - (intOf i).toNat)
  case atStart => exact ⟨0, by omega, rfl, Kp.refl _⟩
  case round =>
    obtain ⟨k, hk, rfl, kr⟩ := hrel
    by_cases hlt : k < 24
    · have e1 : (k : Int) < 24 := by omega
      have e0 : (0 : Int) ≤ (k : Int) := by omega
      have cA := (HA.out.kp kr).at' k hlt
      have cB := (HB.out.kp kr).at' k hlt
      rw [Nat.zero_add] at cA cB
      revert cA cB
      generalize namesL.getD k [] = x
      intro cA cB
      have hq := beq_bytes x x
      rw [decide_eq_true rfl] at hq
      go_wp2_with fail
      go_quiet (fail)
      go_wp2
      go_roundw
      case rel => exact ⟨k + 1, by omega, by go_num, kr.drewN _⟩
      case measure => simp [intOf]; omega
    · obtain rfl : k = 24 := by omega
      go_wp2
      go_ret
      exact ⟨rfl, kr⟩
end Co
end Go.Proofs.YtehmpakcfahmaaaDoor
