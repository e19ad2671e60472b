/-
  WALKS: package word, Cut. Own work.
-/
import Derived.Test.YtcabnckinkdloaaDoorRows
import Derived.Test.YtcabnckinkdloaaDoorWordSem
import Derived.WalkSpells
import Derived.WalkLawsBesides
namespace Go.Proofs.YtcabnckinkdloaaDoor
namespace Wd
open Go.RowKit Go
set_option linter.unusedVariables false

theorem cut_8 (a : Int) (w : World) (ha : 0 ≤ a) (ha' : a < 4294967296) :
    Calls Tryd.prog 7 #[.int .u32 a, .int .i64 8] w fun e w' => e = .returned (.tuple #[.int .u32 (a % 256), .int .i64 0]) ∧ w = w' := by
  go_enter Tryd.func7, Tryd.ntmps7
  go_wp2
  go_ret2
  exact ⟨ret2_int (by omega) rfl, rfl⟩
theorem cut_16 (a : Int) (w : World) (ha : 0 ≤ a) (ha' : a < 4294967296) :
    Calls Tryd.prog 7 #[.int .u32 a, .int .i64 16] w fun e w' => e = .returned (.tuple #[.int .u32 (a % 65536), .int .i64 0]) ∧ w = w' := by
  go_enter Tryd.func7, Tryd.ntmps7
  go_wp2
  go_ret2
  exact ⟨ret2_int (by rw [IntKind.wrap_u16]; omega) rfl, rfl⟩
theorem cut_32 (a : Int) (w : World) (ha : 0 ≤ a) (ha' : a < 4294967296) :
    Calls Tryd.prog 7 #[.int .u32 a, .int .i64 32] w fun e w' => e = .returned (.tuple #[.int .u32 a, .int .i64 0]) ∧ w = w' := by
  go_enter Tryd.func7, Tryd.ntmps7
  go_wp2
  go_ret2
  exact ⟨ret2_int (by omega) rfl, rfl⟩
theorem cut_no (a n : Int) (w : World) (ha : 0 ≤ a) (ha' : a < 4294967296) (h1 : (n == 8) = false) (h2 : (n == 16) = false) (h3 : (n == 32) = false) :
    Calls Tryd.prog 7 #[.int .u32 a, .int .i64 n] w fun e w' => e = .returned (.tuple #[.int .u32 0, .int .i64 2]) ∧ w = w' := by
  go_enter Tryd.func7, Tryd.ntmps7
  go_wp2
  go_ret2
  exact ⟨rfl, rfl⟩
theorem cut_any (a n : Int) (w : World) (ha : 0 ≤ a) (ha' : a < 4294967296) :
    Calls Tryd.prog 7 #[.int .u32 a, .int .i64 n] w fun e w' => e = .returned (.tuple #[.int .u32 (cutVal a n), .int .i64 (cutErr n)]) ∧ w = w' := by
  by_cases h1 : n = 8
  · subst h1; exact cut_8 a w ha ha'
  by_cases h2 : n = 16
  · subst h2; exact cut_16 a w ha ha'
  by_cases h3 : n = 32
  · subst h3; exact cut_32 a w ha ha'
  have e1 : cutVal a n = 0 := by unfold cutVal; rw [if_neg h1, if_neg h2, if_neg h3]
  have e2 : cutErr n = 2 := by unfold cutErr; rw [if_neg (by omega)]
  rw [e1, e2]
  exact cut_no a n w ha ha' (by simpa using h1) (by simpa using h2) (by simpa using h3)

theorem signed_any (a : Int) (w : World) (ha : 0 ≤ a) (ha' : a < 4294967296) :
    Calls Tryd.prog 12 #[.int .u32 a] w fun e w' => e = .returned (.int .i64 (wrap32 a)) ∧ w = w' := by
  have hb := wrap32_bd a
  go_enter Tryd.func12, Tryd.ntmps12
  go_wp2
  go_ret
  exact ⟨rfl, rfl⟩
end Wd
end Go.Proofs.YtcabnckinkdloaaDoor
