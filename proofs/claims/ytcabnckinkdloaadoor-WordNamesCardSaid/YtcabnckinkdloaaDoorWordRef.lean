/-
  WALKS: the document's own answers for layer 1 (package lamplighterref01), and the texts of package word. Own work.
-/
import Derived.Test.YtcabnckinkdloaaDoorWordLives
import Derived.Test.YtcabnckinkdloaaDoorWordLaws
namespace Go.Proofs.YtcabnckinkdloaaDoor
namespace Wd
open Go.RowKit Go
set_option linter.unusedVariables false

theorem yes_any (p : Bool) (w : World) : Calls Tryd.prog 25 #[.bool p] w fun e w' => e = .returned (.int .u32 (if p = true then 1 else 0)) ∧ w = w' := by
  cases p
  all_goals
    go_enter Tryd.func25, Tryd.ntmps25
    go_wp2
    go_ret
    exact ⟨rfl, rfl⟩
theorem rsigned_any (a : Int) (w : World) (ha : 0 ≤ a) (ha' : a < 4294967296) :
    Calls Tryd.prog 16 #[.int .u32 a] w fun e w' => e = .returned (.int .i64 (wrap32 a)) ∧ w = w' := by
  by_cases h : a < 2147483648
  · go_enter Tryd.func16, Tryd.ntmps16
    go_wp2
    go_ret
    exact ⟨ret_int (by unfold wrap32; omega), rfl⟩
  · go_enter Tryd.func16, Tryd.ntmps16
    go_wp2
    go_ret
    exact ⟨ret_int (by unfold wrap32; omega), rfl⟩

set_option maxHeartbeats 400000 in
theorem ref_1 (a b : Int) (w : World) (ha : 0 ≤ a) (ha' : a < 4294967296) (hb : 0 ≤ b) (hb' : b < 4294967296) :
    Calls Tryd.prog 13 #[.int .i64 1, .int .u32 a, .int .u32 b] w fun e w' => e = .returned (.tuple #[.int .u32 (val 1 a b), .int .i64 0]) ∧ w = w' := by
  have hbx := wrap32_bd a
  have hby := wrap32_bd b
  go_enter Tryd.func13, Tryd.ntmps13
  go_wp2_with (first | (go_at_call 16; refine (rsigned_any _ _ (by omega) (by omega)).mono ?_; rintro e w1 ⟨rfl, rfl⟩) | (go_at_call 25; refine (yes_any _ _).mono ?_; rintro e w1 ⟨rfl, rfl⟩))
  all_goals go_ret2
  all_goals exact ⟨ret2_int (rfl) rfl, rfl⟩

set_option maxHeartbeats 400000 in
theorem ref_2 (a b : Int) (w : World) (ha : 0 ≤ a) (ha' : a < 4294967296) (hb : 0 ≤ b) (hb' : b < 4294967296) :
    Calls Tryd.prog 13 #[.int .i64 2, .int .u32 a, .int .u32 b] w fun e w' => e = .returned (.tuple #[.int .u32 (val 2 a b), .int .i64 0]) ∧ w = w' := by
  have hbx := wrap32_bd a
  have hby := wrap32_bd b
  go_enter Tryd.func13, Tryd.ntmps13
  go_wp2_with (first | (go_at_call 16; refine (rsigned_any _ _ (by omega) (by omega)).mono ?_; rintro e w1 ⟨rfl, rfl⟩) | (go_at_call 25; refine (yes_any _ _).mono ?_; rintro e w1 ⟨rfl, rfl⟩))
  all_goals go_ret2
  all_goals exact ⟨ret2_int (rfl) rfl, rfl⟩

set_option maxHeartbeats 400000 in
theorem ref_3 (a b : Int) (w : World) (ha : 0 ≤ a) (ha' : a < 4294967296) (hb : 0 ≤ b) (hb' : b < 4294967296) :
    Calls Tryd.prog 13 #[.int .i64 3, .int .u32 a, .int .u32 b] w fun e w' => e = .returned (.tuple #[.int .u32 (val 3 a b), .int .i64 0]) ∧ w = w' := by
  have hbx := wrap32_bd a
  have hby := wrap32_bd b
  go_enter Tryd.func13, Tryd.ntmps13
  go_wp2_with (first | (go_at_call 16; refine (rsigned_any _ _ (by omega) (by omega)).mono ?_; rintro e w1 ⟨rfl, rfl⟩) | (go_at_call 25; refine (yes_any _ _).mono ?_; rintro e w1 ⟨rfl, rfl⟩))
  all_goals go_ret2
  all_goals exact ⟨ret2_int (rfl) rfl, rfl⟩

set_option maxHeartbeats 400000 in
theorem ref_4 (a b : Int) (w : World) (ha : 0 ≤ a) (ha' : a < 4294967296) (hb : 0 ≤ b) (hb' : b < 4294967296) (hb0 : 0 < b) :
    Calls Tryd.prog 13 #[.int .i64 4, .int .u32 a, .int .u32 b] w fun e w' => e = .returned (.tuple #[.int .u32 (val 4 a b), .int .i64 0]) ∧ w = w' := by
  have hbx := wrap32_bd a
  have hby := wrap32_bd b
  have hw := wrap32_ne hb0 hb'
  go_enter Tryd.func13, Tryd.ntmps13
  go_wp2_with (first | (go_at_call 16; refine (rsigned_any _ _ (by omega) (by omega)).mono ?_; rintro e w1 ⟨rfl, rfl⟩) | (go_at_call 25; refine (yes_any _ _).mono ?_; rintro e w1 ⟨rfl, rfl⟩))
  all_goals go_ret2
  all_goals exact ⟨ret2_int ((val4 a b (by omega)).symm) rfl, rfl⟩

set_option maxHeartbeats 400000 in
theorem ref_5 (a b : Int) (w : World) (ha : 0 ≤ a) (ha' : a < 4294967296) (hb : 0 ≤ b) (hb' : b < 4294967296) (hb0 : 0 < b) :
    Calls Tryd.prog 13 #[.int .i64 5, .int .u32 a, .int .u32 b] w fun e w' => e = .returned (.tuple #[.int .u32 (val 5 a b), .int .i64 0]) ∧ w = w' := by
  have hbx := wrap32_bd a
  have hby := wrap32_bd b
  have hw := wrap32_ne hb0 hb'
  go_enter Tryd.func13, Tryd.ntmps13
  go_wp2_with (first | (go_at_call 16; refine (rsigned_any _ _ (by omega) (by omega)).mono ?_; rintro e w1 ⟨rfl, rfl⟩) | (go_at_call 25; refine (yes_any _ _).mono ?_; rintro e w1 ⟨rfl, rfl⟩))
  all_goals go_ret2
  all_goals exact ⟨ret2_int ((val5 a b (by omega)).symm) rfl, rfl⟩

set_option maxHeartbeats 400000 in
theorem ref_6 (a b : Int) (w : World) (ha : 0 ≤ a) (ha' : a < 4294967296) (hb : 0 ≤ b) (hb' : b < 4294967296) (hb0 : 0 < b) :
    Calls Tryd.prog 13 #[.int .i64 6, .int .u32 a, .int .u32 b] w fun e w' => e = .returned (.tuple #[.int .u32 (val 6 a b), .int .i64 0]) ∧ w = w' := by
  have hbx := wrap32_bd a
  have hby := wrap32_bd b
  have hw := wrap32_ne hb0 hb'
  go_enter Tryd.func13, Tryd.ntmps13
  go_wp2_with (first | (go_at_call 16; refine (rsigned_any _ _ (by omega) (by omega)).mono ?_; rintro e w1 ⟨rfl, rfl⟩) | (go_at_call 25; refine (yes_any _ _).mono ?_; rintro e w1 ⟨rfl, rfl⟩))
  all_goals go_ret2
  all_goals exact ⟨ret2_int (by rw [val6_mod a b (by omega)]; exact wrap64_mod _) rfl, rfl⟩

set_option maxHeartbeats 400000 in
theorem ref_7 (a b : Int) (w : World) (ha : 0 ≤ a) (ha' : a < 4294967296) (hb : 0 ≤ b) (hb' : b < 4294967296) (hb0 : 0 < b) :
    Calls Tryd.prog 13 #[.int .i64 7, .int .u32 a, .int .u32 b] w fun e w' => e = .returned (.tuple #[.int .u32 (val 7 a b), .int .i64 0]) ∧ w = w' := by
  have hbx := wrap32_bd a
  have hby := wrap32_bd b
  have hw := wrap32_ne hb0 hb'
  go_enter Tryd.func13, Tryd.ntmps13
  go_wp2_with (first | (go_at_call 16; refine (rsigned_any _ _ (by omega) (by omega)).mono ?_; rintro e w1 ⟨rfl, rfl⟩) | (go_at_call 25; refine (yes_any _ _).mono ?_; rintro e w1 ⟨rfl, rfl⟩))
  all_goals go_ret2
  all_goals exact ⟨ret2_int ((val7 a b (by omega)).symm) rfl, rfl⟩

set_option maxHeartbeats 400000 in
theorem ref_8 (a b : Int) (w : World) (ha : 0 ≤ a) (ha' : a < 4294967296) (hb : 0 ≤ b) (hb' : b < 4294967296) :
    Calls Tryd.prog 13 #[.int .i64 8, .int .u32 a, .int .u32 b] w fun e w' => e = .returned (.tuple #[.int .u32 (val 8 a b), .int .i64 0]) ∧ w = w' := by
  have hbx := wrap32_bd a
  have hby := wrap32_bd b
  go_enter Tryd.func13, Tryd.ntmps13
  go_wp2_with (first | (go_at_call 16; refine (rsigned_any _ _ (by omega) (by omega)).mono ?_; rintro e w1 ⟨rfl, rfl⟩) | (go_at_call 25; refine (yes_any _ _).mono ?_; rintro e w1 ⟨rfl, rfl⟩))
  all_goals go_ret2
  all_goals exact ⟨ret2_int (rfl) rfl, rfl⟩

set_option maxHeartbeats 400000 in
theorem ref_9 (a b : Int) (w : World) (ha : 0 ≤ a) (ha' : a < 4294967296) (hb : 0 ≤ b) (hb' : b < 4294967296) :
    Calls Tryd.prog 13 #[.int .i64 9, .int .u32 a, .int .u32 b] w fun e w' => e = .returned (.tuple #[.int .u32 (val 9 a b), .int .i64 0]) ∧ w = w' := by
  have hbx := wrap32_bd a
  have hby := wrap32_bd b
  go_enter Tryd.func13, Tryd.ntmps13
  go_wp2_with (first | (go_at_call 16; refine (rsigned_any _ _ (by omega) (by omega)).mono ?_; rintro e w1 ⟨rfl, rfl⟩) | (go_at_call 25; refine (yes_any _ _).mono ?_; rintro e w1 ⟨rfl, rfl⟩))
  all_goals go_ret2
  all_goals exact ⟨ret2_int (rfl) rfl, rfl⟩

set_option maxHeartbeats 400000 in
theorem ref_10 (a b : Int) (w : World) (ha : 0 ≤ a) (ha' : a < 4294967296) (hb : 0 ≤ b) (hb' : b < 4294967296) :
    Calls Tryd.prog 13 #[.int .i64 10, .int .u32 a, .int .u32 b] w fun e w' => e = .returned (.tuple #[.int .u32 (val 10 a b), .int .i64 0]) ∧ w = w' := by
  have hbx := wrap32_bd a
  have hby := wrap32_bd b
  go_enter Tryd.func13, Tryd.ntmps13
  go_wp2_with (first | (go_at_call 16; refine (rsigned_any _ _ (by omega) (by omega)).mono ?_; rintro e w1 ⟨rfl, rfl⟩) | (go_at_call 25; refine (yes_any _ _).mono ?_; rintro e w1 ⟨rfl, rfl⟩))
  all_goals go_ret2
  all_goals exact ⟨ret2_int (rfl) rfl, rfl⟩

set_option maxHeartbeats 400000 in
theorem ref_11lo (a b : Int) (w : World) (ha : 0 ≤ a) (ha' : a < 4294967296) (hb : 0 ≤ b) (hb' : b < 4294967296) (hl : b ≤ 31) :
    Calls Tryd.prog 13 #[.int .i64 11, .int .u32 a, .int .u32 b] w fun e w' => e = .returned (.tuple #[.int .u32 (val 11 a b), .int .i64 0]) ∧ w = w' := by
  have hbx := wrap32_bd a
  have hby := wrap32_bd b
  go_enter Tryd.func13, Tryd.ntmps13
  go_wp2_with (first | (go_at_call 16; refine (rsigned_any _ _ (by omega) (by omega)).mono ?_; rintro e w1 ⟨rfl, rfl⟩) | (go_at_call 25; refine (yes_any _ _).mono ?_; rintro e w1 ⟨rfl, rfl⟩))
  all_goals go_ret2
  all_goals exact ⟨ret2_int (by rw [val11, show min b.toNat 32 = b.toNat by omega]) rfl, rfl⟩

set_option maxHeartbeats 400000 in
theorem ref_11hi (a b : Int) (w : World) (ha : 0 ≤ a) (ha' : a < 4294967296) (hb : 0 ≤ b) (hb' : b < 4294967296) (hl : 31 < b) :
    Calls Tryd.prog 13 #[.int .i64 11, .int .u32 a, .int .u32 b] w fun e w' => e = .returned (.tuple #[.int .u32 (val 11 a b), .int .i64 0]) ∧ w = w' := by
  have hbx := wrap32_bd a
  have hby := wrap32_bd b
  go_enter Tryd.func13, Tryd.ntmps13
  go_wp2_with (first | (go_at_call 16; refine (rsigned_any _ _ (by omega) (by omega)).mono ?_; rintro e w1 ⟨rfl, rfl⟩) | (go_at_call 25; refine (yes_any _ _).mono ?_; rintro e w1 ⟨rfl, rfl⟩))
  all_goals go_ret2
  all_goals exact ⟨ret2_int ((by rw [shl_far a b (by omega), val3]; simp)) rfl, rfl⟩

set_option maxHeartbeats 400000 in
theorem ref_12lo (a b : Int) (w : World) (ha : 0 ≤ a) (ha' : a < 4294967296) (hb : 0 ≤ b) (hb' : b < 4294967296) (hl : b ≤ 31) :
    Calls Tryd.prog 13 #[.int .i64 12, .int .u32 a, .int .u32 b] w fun e w' => e = .returned (.tuple #[.int .u32 (val 12 a b), .int .i64 0]) ∧ w = w' := by
  have hbx := wrap32_bd a
  have hby := wrap32_bd b
  go_enter Tryd.func13, Tryd.ntmps13
  go_wp2_with (first | (go_at_call 16; refine (rsigned_any _ _ (by omega) (by omega)).mono ?_; rintro e w1 ⟨rfl, rfl⟩) | (go_at_call 25; refine (yes_any _ _).mono ?_; rintro e w1 ⟨rfl, rfl⟩))
  all_goals go_ret2
  all_goals exact ⟨ret2_int (by rw [val12, show min b.toNat 32 = b.toNat by omega]) rfl, rfl⟩

set_option maxHeartbeats 400000 in
theorem ref_12hi (a b : Int) (w : World) (ha : 0 ≤ a) (ha' : a < 4294967296) (hb : 0 ≤ b) (hb' : b < 4294967296) (hl : 31 < b) :
    Calls Tryd.prog 13 #[.int .i64 12, .int .u32 a, .int .u32 b] w fun e w' => e = .returned (.tuple #[.int .u32 (val 12 a b), .int .i64 0]) ∧ w = w' := by
  have hbx := wrap32_bd a
  have hby := wrap32_bd b
  go_enter Tryd.func13, Tryd.ntmps13
  go_wp2_with (first | (go_at_call 16; refine (rsigned_any _ _ (by omega) (by omega)).mono ?_; rintro e w1 ⟨rfl, rfl⟩) | (go_at_call 25; refine (yes_any _ _).mono ?_; rintro e w1 ⟨rfl, rfl⟩))
  all_goals go_ret2
  all_goals exact ⟨ret2_int ((shr_far a b ha ha' (by omega)).symm) rfl, rfl⟩

set_option maxHeartbeats 400000 in
theorem ref_13lo (a b : Int) (w : World) (ha : 0 ≤ a) (ha' : a < 4294967296) (hb : 0 ≤ b) (hb' : b < 4294967296) (hl : b ≤ 31) :
    Calls Tryd.prog 13 #[.int .i64 13, .int .u32 a, .int .u32 b] w fun e w' => e = .returned (.tuple #[.int .u32 (val 13 a b), .int .i64 0]) ∧ w = w' := by
  have hbx := wrap32_bd a
  have hby := wrap32_bd b
  go_enter Tryd.func13, Tryd.ntmps13
  go_wp2_with (first | (go_at_call 16; refine (rsigned_any _ _ (by omega) (by omega)).mono ?_; rintro e w1 ⟨rfl, rfl⟩) | (go_at_call 25; refine (yes_any _ _).mono ?_; rintro e w1 ⟨rfl, rfl⟩))
  all_goals go_ret2
  all_goals exact ⟨ret2_int (by rw [val13, show min b.toNat 32 = b.toNat by omega]) rfl, rfl⟩

set_option maxHeartbeats 400000 in
theorem ref_13hi (a b : Int) (w : World) (ha : 0 ≤ a) (ha' : a < 4294967296) (hb : 0 ≤ b) (hb' : b < 4294967296) (hl : 31 < b) :
    Calls Tryd.prog 13 #[.int .i64 13, .int .u32 a, .int .u32 b] w fun e w' => e = .returned (.tuple #[.int .u32 (val 13 a b), .int .i64 0]) ∧ w = w' := by
  have hbx := wrap32_bd a
  have hby := wrap32_bd b
  go_enter Tryd.func13, Tryd.ntmps13
  go_wp2_with (first | (go_at_call 16; refine (rsigned_any _ _ (by omega) (by omega)).mono ?_; rintro e w1 ⟨rfl, rfl⟩) | (go_at_call 25; refine (yes_any _ _).mono ?_; rintro e w1 ⟨rfl, rfl⟩))
  all_goals go_ret2
  all_goals exact ⟨ret2_int (by rw [val13, show min b.toNat 32 = 32 by omega]; first | rfl | rw [show b.toNat = 32 by omega]) rfl, rfl⟩

set_option maxHeartbeats 400000 in
theorem ref_14 (a b : Int) (w : World) (ha : 0 ≤ a) (ha' : a < 4294967296) (hb : 0 ≤ b) (hb' : b < 4294967296) :
    Calls Tryd.prog 13 #[.int .i64 14, .int .u32 a, .int .u32 b] w fun e w' => e = .returned (.tuple #[.int .u32 (val 14 a b), .int .i64 0]) ∧ w = w' := by
  have hbx := wrap32_bd a
  have hby := wrap32_bd b
  go_enter Tryd.func13, Tryd.ntmps13
  go_wp2_with (first | (go_at_call 16; refine (rsigned_any _ _ (by omega) (by omega)).mono ?_; rintro e w1 ⟨rfl, rfl⟩) | (go_at_call 25; refine (yes_any _ _).mono ?_; rintro e w1 ⟨rfl, rfl⟩))
  all_goals go_ret2
  all_goals exact ⟨ret2_int (by rw [val14]; simp [*]) rfl, rfl⟩

set_option maxHeartbeats 400000 in
theorem ref_15 (a b : Int) (w : World) (ha : 0 ≤ a) (ha' : a < 4294967296) (hb : 0 ≤ b) (hb' : b < 4294967296) :
    Calls Tryd.prog 13 #[.int .i64 15, .int .u32 a, .int .u32 b] w fun e w' => e = .returned (.tuple #[.int .u32 (val 15 a b), .int .i64 0]) ∧ w = w' := by
  have hbx := wrap32_bd a
  have hby := wrap32_bd b
  go_enter Tryd.func13, Tryd.ntmps13
  go_wp2_with (first | (go_at_call 16; refine (rsigned_any _ _ (by omega) (by omega)).mono ?_; rintro e w1 ⟨rfl, rfl⟩) | (go_at_call 25; refine (yes_any _ _).mono ?_; rintro e w1 ⟨rfl, rfl⟩))
  all_goals go_ret2
  all_goals exact ⟨ret2_int (by rw [val15]; simp [*]) rfl, rfl⟩

set_option maxHeartbeats 400000 in
theorem ref_16 (a b : Int) (w : World) (ha : 0 ≤ a) (ha' : a < 4294967296) (hb : 0 ≤ b) (hb' : b < 4294967296) :
    Calls Tryd.prog 13 #[.int .i64 16, .int .u32 a, .int .u32 b] w fun e w' => e = .returned (.tuple #[.int .u32 (val 16 a b), .int .i64 0]) ∧ w = w' := by
  have hbx := wrap32_bd a
  have hby := wrap32_bd b
  go_enter Tryd.func13, Tryd.ntmps13
  go_wp2_with (first | (go_at_call 16; refine (rsigned_any _ _ (by omega) (by omega)).mono ?_; rintro e w1 ⟨rfl, rfl⟩) | (go_at_call 25; refine (yes_any _ _).mono ?_; rintro e w1 ⟨rfl, rfl⟩))
  all_goals go_ret2
  all_goals exact ⟨ret2_int (by rw [val16]; simp [*]) rfl, rfl⟩

set_option maxHeartbeats 400000 in
theorem ref_17 (a b : Int) (w : World) (ha : 0 ≤ a) (ha' : a < 4294967296) (hb : 0 ≤ b) (hb' : b < 4294967296) :
    Calls Tryd.prog 13 #[.int .i64 17, .int .u32 a, .int .u32 b] w fun e w' => e = .returned (.tuple #[.int .u32 (val 17 a b), .int .i64 0]) ∧ w = w' := by
  have hbx := wrap32_bd a
  have hby := wrap32_bd b
  go_enter Tryd.func13, Tryd.ntmps13
  go_wp2_with (first | (go_at_call 16; refine (rsigned_any _ _ (by omega) (by omega)).mono ?_; rintro e w1 ⟨rfl, rfl⟩) | (go_at_call 25; refine (yes_any _ _).mono ?_; rintro e w1 ⟨rfl, rfl⟩))
  all_goals go_ret2
  all_goals exact ⟨ret2_int (by rw [val17]; simp [*]) rfl, rfl⟩

set_option maxHeartbeats 400000 in
theorem ref_18 (a b : Int) (w : World) (ha : 0 ≤ a) (ha' : a < 4294967296) (hb : 0 ≤ b) (hb' : b < 4294967296) :
    Calls Tryd.prog 13 #[.int .i64 18, .int .u32 a, .int .u32 b] w fun e w' => e = .returned (.tuple #[.int .u32 (val 18 a b), .int .i64 0]) ∧ w = w' := by
  have hbx := wrap32_bd a
  have hby := wrap32_bd b
  go_enter Tryd.func13, Tryd.ntmps13
  go_wp2_with (first | (go_at_call 16; refine (rsigned_any _ _ (by omega) (by omega)).mono ?_; rintro e w1 ⟨rfl, rfl⟩) | (go_at_call 25; refine (yes_any _ _).mono ?_; rintro e w1 ⟨rfl, rfl⟩))
  all_goals go_ret2
  all_goals exact ⟨ret2_int (by rw [val18]; simp [*]) rfl, rfl⟩

set_option maxHeartbeats 400000 in
theorem ref_19 (a b : Int) (w : World) (ha : 0 ≤ a) (ha' : a < 4294967296) (hb : 0 ≤ b) (hb' : b < 4294967296) :
    Calls Tryd.prog 13 #[.int .i64 19, .int .u32 a, .int .u32 b] w fun e w' => e = .returned (.tuple #[.int .u32 (val 19 a b), .int .i64 0]) ∧ w = w' := by
  have hbx := wrap32_bd a
  have hby := wrap32_bd b
  go_enter Tryd.func13, Tryd.ntmps13
  go_wp2_with (first | (go_at_call 16; refine (rsigned_any _ _ (by omega) (by omega)).mono ?_; rintro e w1 ⟨rfl, rfl⟩) | (go_at_call 25; refine (yes_any _ _).mono ?_; rintro e w1 ⟨rfl, rfl⟩))
  all_goals go_ret2
  all_goals exact ⟨ret2_int (by rw [val19]; simp [*]) rfl, rfl⟩

set_option maxHeartbeats 400000 in
theorem ref_zero (op a : Int) (w : World) (ha : 0 ≤ a) (ha' : a < 4294967296) (h1 : 4 ≤ op) (h2 : op ≤ 7) :
    Calls Tryd.prog 13 #[.int .i64 op, .int .u32 a, .int .u32 0] w fun e w' => e = .returned (.tuple #[.int .u32 0, .int .i64 12]) ∧ w = w' := by
  go_enter Tryd.func13, Tryd.ntmps13
  go_wp2_with (go_at_call 16; refine (rsigned_any _ _ (by omega) (by omega)).mono ?_; rintro e w1 ⟨rfl, rfl⟩)
  go_ret2
  exact ⟨rfl, rfl⟩

set_option maxHeartbeats 400000 in
theorem ref_bad_lo (op a b : Int) (w : World) (ha : 0 ≤ a) (ha' : a < 4294967296) (hb : 0 ≤ b) (hb' : b < 4294967296) (h : op < 1) (n1 : (op == 1) = false) (n2 : (op == 2) = false) (n3 : (op == 3) = false) (n4 : (op == 4) = false) (n5 : (op == 5) = false) (n6 : (op == 6) = false) (n7 : (op == 7) = false) (n8 : (op == 8) = false) (n9 : (op == 9) = false) (n10 : (op == 10) = false) (n11 : (op == 11) = false) (n12 : (op == 12) = false) (n13 : (op == 13) = false) (n14 : (op == 14) = false) (n15 : (op == 15) = false) (n16 : (op == 16) = false) (n17 : (op == 17) = false) (n18 : (op == 18) = false) (n19 : (op == 19) = false) :
    Calls Tryd.prog 13 #[.int .i64 op, .int .u32 a, .int .u32 b] w fun e w' => e = .returned (.tuple #[.int .u32 0, .int .i64 2]) ∧ w = w' := by
  go_enter Tryd.func13, Tryd.ntmps13
  go_wp2_with (go_at_call 16; refine (rsigned_any _ _ (by omega) (by omega)).mono ?_; rintro e w1 ⟨rfl, rfl⟩)
  go_ret2
  exact ⟨rfl, rfl⟩

set_option maxHeartbeats 400000 in
theorem ref_bad_hi (op a b : Int) (w : World) (ha : 0 ≤ a) (ha' : a < 4294967296) (hb : 0 ≤ b) (hb' : b < 4294967296) (h : 19 < op) (n1 : (op == 1) = false) (n2 : (op == 2) = false) (n3 : (op == 3) = false) (n4 : (op == 4) = false) (n5 : (op == 5) = false) (n6 : (op == 6) = false) (n7 : (op == 7) = false) (n8 : (op == 8) = false) (n9 : (op == 9) = false) (n10 : (op == 10) = false) (n11 : (op == 11) = false) (n12 : (op == 12) = false) (n13 : (op == 13) = false) (n14 : (op == 14) = false) (n15 : (op == 15) = false) (n16 : (op == 16) = false) (n17 : (op == 17) = false) (n18 : (op == 18) = false) (n19 : (op == 19) = false) :
    Calls Tryd.prog 13 #[.int .i64 op, .int .u32 a, .int .u32 b] w fun e w' => e = .returned (.tuple #[.int .u32 0, .int .i64 2]) ∧ w = w' := by
  go_enter Tryd.func13, Tryd.ntmps13
  go_wp2_with (go_at_call 16; refine (rsigned_any _ _ (by omega) (by omega)).mono ?_; rintro e w1 ⟨rfl, rfl⟩)
  go_ret2
  exact ⟨rfl, rfl⟩

/-- P1.1 by the document's own answer: the same as what Do returns. -/
theorem ref_any (op a b : Int) (w : World) (ha : 0 ≤ a) (ha' : a < 4294967296) (hb : 0 ≤ b) (hb' : b < 4294967296) :
    Calls Tryd.prog 13 #[.int .i64 op, .int .u32 a, .int .u32 b] w fun e w' => e = .returned (.tuple #[.int .u32 (val op a b), .int .i64 (err op b)]) ∧ w = w' := by
  by_cases h : op < 1 ∨ 19 < op
  · rw [val_bad h, err_bad h]
    have n : ∀ k : Int, 1 ≤ k → k ≤ 19 → (op == k) = false := fun k h1 h2 => by rw [beq_eq_false_iff_ne]; omega
    rcases h with h | h
    · exact ref_bad_lo op a b w ha ha' hb hb' h (n 1 (by decide) (by decide)) (n 2 (by decide) (by decide)) (n 3 (by decide) (by decide)) (n 4 (by decide) (by decide)) (n 5 (by decide) (by decide)) (n 6 (by decide) (by decide)) (n 7 (by decide) (by decide)) (n 8 (by decide) (by decide)) (n 9 (by decide) (by decide)) (n 10 (by decide) (by decide)) (n 11 (by decide) (by decide)) (n 12 (by decide) (by decide)) (n 13 (by decide) (by decide)) (n 14 (by decide) (by decide)) (n 15 (by decide) (by decide)) (n 16 (by decide) (by decide)) (n 17 (by decide) (by decide)) (n 18 (by decide) (by decide)) (n 19 (by decide) (by decide))
    · exact ref_bad_hi op a b w ha ha' hb hb' h (n 1 (by decide) (by decide)) (n 2 (by decide) (by decide)) (n 3 (by decide) (by decide)) (n 4 (by decide) (by decide)) (n 5 (by decide) (by decide)) (n 6 (by decide) (by decide)) (n 7 (by decide) (by decide)) (n 8 (by decide) (by decide)) (n 9 (by decide) (by decide)) (n 10 (by decide) (by decide)) (n 11 (by decide) (by decide)) (n 12 (by decide) (by decide)) (n 13 (by decide) (by decide)) (n 14 (by decide) (by decide)) (n 15 (by decide) (by decide)) (n 16 (by decide) (by decide)) (n 17 (by decide) (by decide)) (n 18 (by decide) (by decide)) (n 19 (by decide) (by decide))
  · by_cases hz : 4 ≤ op ∧ op ≤ 7 ∧ b = 0
    · obtain ⟨h1, h2, rfl⟩ := hz
      rw [val_zero ⟨h1, h2⟩ rfl, err_zero ⟨h1, h2⟩ rfl]; exact ref_zero op a w ha ha' h1 h2
    · rw [err_ok (by omega) hz]
      have hop : op = 1 ∨ op = 2 ∨ op = 3 ∨ op = 4 ∨ op = 5 ∨ op = 6 ∨ op = 7 ∨ op = 8 ∨ op = 9 ∨ op = 10 ∨ op = 11 ∨ op = 12 ∨ op = 13 ∨ op = 14 ∨ op = 15 ∨ op = 16 ∨ op = 17 ∨ op = 18 ∨ op = 19 := by omega
      rcases hop with rfl | rfl | rfl | rfl | rfl | rfl | rfl | rfl | rfl | rfl | rfl | rfl | rfl | rfl | rfl | rfl | rfl | rfl | rfl
      · exact ref_1 a b w ha ha' hb hb'
      · exact ref_2 a b w ha ha' hb hb'
      · exact ref_3 a b w ha ha' hb hb'
      · exact ref_4 a b w ha ha' hb hb' (by omega)
      · exact ref_5 a b w ha ha' hb hb' (by omega)
      · exact ref_6 a b w ha ha' hb hb' (by omega)
      · exact ref_7 a b w ha ha' hb hb' (by omega)
      · exact ref_8 a b w ha ha' hb hb'
      · exact ref_9 a b w ha ha' hb hb'
      · exact ref_10 a b w ha ha' hb hb'
      · by_cases hl : b ≤ 31
        · exact ref_11lo a b w ha ha' hb hb' hl
        · exact ref_11hi a b w ha ha' hb hb' (by omega)
      · by_cases hl : b ≤ 31
        · exact ref_12lo a b w ha ha' hb hb' hl
        · exact ref_12hi a b w ha ha' hb hb' (by omega)
      · by_cases hl : b ≤ 31
        · exact ref_13lo a b w ha ha' hb hb' hl
        · exact ref_13hi a b w ha ha' hb hb' (by omega)
      · exact ref_14 a b w ha ha' hb hb'
      · exact ref_15 a b w ha ha' hb hb'
      · exact ref_16 a b w ha ha' hb hb'
      · exact ref_17 a b w ha ha' hb hb'
      · exact ref_18 a b w ha ha' hb hb'
      · exact ref_19 a b w ha ha' hb hb'

theorem rone_any (op a : Int) (w : World) (ha : 0 ≤ a) (ha' : a < 4294967296) :
    Calls Tryd.prog 14 #[.int .i64 op, .int .u32 a] w fun e w' => e = .returned (.tuple #[.int .u32 (unVal op a), .int .i64 (unErr op)]) ∧ w = w' := by
  by_cases h1 : op = 1
  · subst h1
    go_enter Tryd.func14, Tryd.ntmps14
    go_wp2
    go_ret2
    exact ⟨ret2_int (by rw [neg_word]; omega) rfl, rfl⟩
  by_cases h2 : op = 2
  · subst h2
    have hx := xor_max a ha ha'
    go_enter Tryd.func14, Tryd.ntmps14
    go_wp2
    go_ret2
    exact ⟨ret2_int rfl rfl, rfl⟩
  by_cases h3 : op = 3
  · subst h3
    go_enter Tryd.func14, Tryd.ntmps14
    go_wp2_with (go_at_call 25; refine (yes_any _ _).mono ?_; rintro e w1 ⟨rfl, rfl⟩)
    all_goals go_ret2
    all_goals exact ⟨ret2_int (by simp [unVal, un, *]) rfl, rfl⟩
  have e1 : unVal op a = 0 := by unfold unVal; rw [if_pos (by omega)]
  have e2 : unErr op = 2 := by unfold unErr; rw [if_pos (by omega)]
  rw [e1, e2]
  have n1 : (op == 1) = false := by simpa using h1
  have n2 : (op == 2) = false := by simpa using h2
  have n3 : (op == 3) = false := by simpa using h3
  clear e1 e2 h1 h2 h3
  go_enter Tryd.func14, Tryd.ntmps14
  go_wp2
  go_ret2
  exact ⟨rfl, rfl⟩
theorem rcut_any (a n : Int) (w : World) (ha : 0 ≤ a) (ha' : a < 4294967296) :
    Calls Tryd.prog 15 #[.int .u32 a, .int .i64 n] w fun e w' => e = .returned (.tuple #[.int .u32 (cutVal a n), .int .i64 (cutErr n)]) ∧ w = w' := by
  by_cases h1 : n = 8
  · subst h1
    go_enter Tryd.func15, Tryd.ntmps15
    go_wp2
    go_ret2
    exact ⟨ret2_int rfl rfl, rfl⟩
  by_cases h2 : n = 16
  · subst h2
    go_enter Tryd.func15, Tryd.ntmps15
    go_wp2
    go_ret2
    exact ⟨ret2_int rfl rfl, rfl⟩
  by_cases h3 : n = 32
  · subst h3
    go_enter Tryd.func15, Tryd.ntmps15
    go_wp2
    go_ret2
    exact ⟨ret2_int rfl rfl, rfl⟩
  have e1 : cutVal a n = 0 := by unfold cutVal; rw [if_neg h1, if_neg h2, if_neg h3]
  have e2 : cutErr n = 2 := by unfold cutErr; rw [if_neg (by omega)]
  rw [e1, e2]
  have n1 : (n == 8) = false := by simpa using h1
  have n2 : (n == 16) = false := by simpa using h2
  have n3 : (n == 32) = false := by simpa using h3
  clear e1 e2 h1 h2 h3
  go_enter Tryd.func15, Tryd.ntmps15
  go_wp2
  go_ret2
  exact ⟨rfl, rfl⟩

end Wd
end Go.Proofs.YtcabnckinkdloaaDoor
