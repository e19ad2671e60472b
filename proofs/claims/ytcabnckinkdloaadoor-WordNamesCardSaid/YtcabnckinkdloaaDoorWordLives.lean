/-
  WALKS: lives of the statements of layer 1, and contracts in the form that carries 'nothing that was there has turned'. Own work.
-/
import Derived.Test.YtcabnckinkdloaaDoorWordDo
import Derived.Test.YtcabnckinkdloaaDoorWordCut
namespace Go.Proofs.YtcabnckinkdloaaDoor
namespace Wd
open Go.RowKit Go
set_option linter.unusedVariables false

/-- What a law's walk ends in. -/
def Yes (w0 : World) (e : Ending) (w' : World) : Prop := e = .returned (.bool true) ∧ Kp w0 w'

theorem doc {w0 w : World} (hk : Kp w0 w) (op a b : Int) (ha : 0 ≤ a) (ha' : a < 4294967296) (hb : 0 ≤ b) (hb' : b < 4294967296) :
    Calls Tryd.prog 5 #[.int .i64 op, .int .u32 a, .int .u32 b] w fun e w' => e = .returned (.tuple #[.int .u32 (val op a b), .int .i64 (err op b)]) ∧ Kp w0 w' :=
  (do_any op a b w ha ha' hb hb').mono fun _ _ ⟨he, h⟩ => ⟨he, hk.trans h⟩
theorem onec {w0 w : World} (hk : Kp w0 w) (op a : Int) (ha : 0 ≤ a) (ha' : a < 4294967296) :
    Calls Tryd.prog 6 #[.int .i64 op, .int .u32 a] w fun e w' => e = .returned (.tuple #[.int .u32 (unVal op a), .int .i64 (unErr op)]) ∧ Kp w0 w' :=
  (one_any op a w ha ha').mono fun _ _ ⟨he, h⟩ => ⟨he, hk.trans h⟩

theorem v1 : val 6 2147483648 4294967295 = 2147483648 ∧ err 6 4294967295 = 0 := by decide +kernel
theorem v2 : val 7 2147483648 4294967295 = 0 ∧ err 7 4294967295 = 0 := by decide +kernel
theorem v3 : val 13 2147483648 33 = 4294967295 ∧ err 13 33 = 0 := by decide +kernel
theorem v4 : val 4 1 0 = 0 ∧ err 4 0 = 12 := by decide +kernel

theorem l1 {w0 w : World} (hk : Kp w0 w) : Calls Tryd.prog 5 #[.int .i64 6, .int .u32 2147483648, .int .u32 4294967295] w fun e w' => e = .returned (.tuple #[.int .u32 2147483648, .int .i64 0]) ∧ Kp w0 w' := by
  have h := doc hk 6 2147483648 4294967295 (by decide) (by decide) (by decide) (by decide)
  rwa [v1.1, v1.2] at h
theorem l2 {w0 w : World} (hk : Kp w0 w) : Calls Tryd.prog 5 #[.int .i64 7, .int .u32 2147483648, .int .u32 4294967295] w fun e w' => e = .returned (.tuple #[.int .u32 0, .int .i64 0]) ∧ Kp w0 w' := by
  have h := doc hk 7 2147483648 4294967295 (by decide) (by decide) (by decide) (by decide)
  rwa [v2.1, v2.2] at h
theorem l3 {w0 w : World} (hk : Kp w0 w) : Calls Tryd.prog 5 #[.int .i64 13, .int .u32 2147483648, .int .u32 33] w fun e w' => e = .returned (.tuple #[.int .u32 4294967295, .int .i64 0]) ∧ Kp w0 w' := by
  have h := doc hk 13 2147483648 33 (by decide) (by decide) (by decide) (by decide)
  rwa [v3.1, v3.2] at h
theorem l4 {w0 w : World} (hk : Kp w0 w) : Calls Tryd.prog 5 #[.int .i64 4, .int .u32 1, .int .u32 0] w fun e w' => e = .returned (.tuple #[.int .u32 0, .int .i64 12]) ∧ Kp w0 w' := by
  have h := doc hk 4 1 0 (by decide) (by decide) (by decide) (by decide)
  rwa [v4.1, v4.2] at h

set_option maxHeartbeats 400000 in
theorem lives_yes {w0 w : World} (hk : Kp w0 w) : Calls Tryd.prog 8 #[] w fun e w' => e = .returned (.bool true) ∧ Kp w0 w' := by
  go_enter Tryd.func8, Tryd.ntmps8
  go_wp2_with fail
  refine (l1 hk).mono ?_
  rintro e w1 ⟨rfl, h1⟩
  go_wp2_with fail
  refine (l2 h1).mono ?_
  rintro e w2 ⟨rfl, h2⟩
  go_wp2_with fail
  refine (l3 h2).mono ?_
  rintro e w3 ⟨rfl, h3⟩
  go_wp2_with fail
  refine (l4 h3).mono ?_
  rintro e w4 ⟨rfl, h4⟩
  go_wp2
  go_ret
  exact ⟨rfl, h4⟩
end Wd
end Go.Proofs.YtcabnckinkdloaaDoor
