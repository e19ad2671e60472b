/-
  The same for the row that lists six variables. No walk. Own work.
-/
import Derived.Test.YtaeblnlbelebkaaGreatDoorImCardKit
import Derived.Test.YtaeblnlbelebkaaGreatDoorCoText
namespace Go.Proofs.YtaeblnlbelebkaaGreatDoor
namespace Co6
open Go.RowKit Go Go.ChangeShapes Go.WideShapes Go.Deep Co
set_option maxRecDepth 100000
def allLaid : List (String × DataW Unit) := [("lamplighter/word.signs", Rows.laid_lamplighter_word_signs), ("lamplighter/word.names", Rows.laid_lamplighter_word_names), ("math/bits.deBruijn32tab", Rows.laid_math_bits_deBruijn32tab), ("math/bits.deBruijn64tab", Rows.laid_math_bits_deBruijn64tab), ("internal/strconv.uint64pow10", Rows.laid_internal_strconv_uint64pow10), ("lamplighter/code.rows", Rows.laid_lamplighter_code_rows)]
theorem env_in {W : World} (h0 : laidMetH Tryz.prog allLaid W) : Env W ∧ Pw W := by
  have h : laidMet Tryz.prog allLaid W := by rw [MakeChecks.laidMetH_plain _ _ _ (by kernel_rfl)] at h0; exact h0
  have r3 := Lib.laidMet.reads h (show ("internal/strconv.uint64pow10", Rows.laid_internal_strconv_uint64pow10) ∈ allLaid by simp [allLaid])
  have e3 : (Rows.laid_internal_strconv_uint64pow10 : DataW Unit) = Lib.tabData .u64 Lib.pow10Tab := by kernel_rfl
  rw [e3] at r3
  exact ⟨env_of h (by simp [allLaid]) (by simp [allLaid]) (by simp [allLaid]), ⟨tab_in (g := 3) (t := 173) (by kernel_rfl) (by kernel_rfl) Tryz.underlying173 Tryz.underlying160 (by kernel_rfl) (by kernel_rfl) r3⟩⟩

/- A world for the witness: the one that the initialisers leave. -/
theorem door_leaves (os : Os) : doorLeaves Tryz.prog 160 8 257 allLaid os (fun _ _ => 0) = some (allLaid.filter fun x => x.2.handleName?.isNone, (funcsListed allLaid).map (·.2.funcsOut)) := by kernel_rfl
theorem door_met (os : Os) : laidMet Tryz.prog allLaid (varsWorld Tryz.prog 160 (varsId Tryz.prog) os (fun _ _ => 0)).memory := by
  have d := door_leaves os
  unfold doorLeaves at d
  split at d
  · rename_i v w hr
    have hw : varsWorld Tryz.prog 160 (varsId Tryz.prog) os (fun _ _ => 0) = w := by unfold varsWorld; rw [hr]
    rw [hw]
    simp only [Option.bind_eq_some_iff] at d
    obtain ⟨x, hx, d⟩ := d
    split at d
    · rename_i hb
      simp only [Bool.and_eq_true] at hb
      simp only [Option.map_eq_some_iff, Prod.mk.injEq] at d
      obtain ⟨y, hy, e1, e2⟩ := d
      have ef : (allLaid.filter fun x => x.2.handleName?.isNone) = allLaid := by kernel_rfl
      rw [ef] at hx e1
      exact laidMet_of_run (ps := x.2) 8 (by rw [hx, ← e1]) (decide_eq_true (nodupBits_sound hb.1.1).1) hb.1.2
    · cases d
  · cases d
theorem wit_met (os : Os) (args : Array Value) : laidMet Tryz.prog allLaid ((World.doorLaid Tryz.prog 160 os).forCall (fun _ _ => 0) ⟨#[], args, []⟩).memory :=
  (door_met os).of_heap (by simp [World.doorLaid, World.forCall, World.memory, Input.heap])
end Co6
end Go.Proofs.YtaeblnlbelebkaaGreatDoor
