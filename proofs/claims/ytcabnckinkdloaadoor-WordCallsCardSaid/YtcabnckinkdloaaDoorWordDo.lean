/-
  WALKS: package word, Do and One: the array of function literals is made, stored, indexed, and called. Own work.
-/
import Derived.Test.YtcabnckinkdloaaDoorWordOps
namespace Go.Proofs.YtcabnckinkdloaaDoor
namespace Wd
open Go.RowKit Go
set_option linter.unusedVariables false

def twoCells : Array Value := #[.nilFunc, .func (.func 26) #[] #[], .func (.func 27) #[] #[], .func (.func 28) #[] #[], .func (.func 29) #[] #[], .func (.func 30) #[] #[], .func (.func 31) #[] #[], .func (.func 32) #[] #[], .func (.func 33) #[] #[], .func (.func 34) #[] #[], .func (.func 35) #[] #[], .func (.func 36) #[] #[], .func (.func 37) #[] #[], .func (.func 38) #[] #[], .func (.func 39) #[] #[], .func (.func 41) #[] #[], .func (.func 42) #[] #[], .func (.func 43) #[] #[], .func (.func 44) #[] #[], .func (.func 45) #[] #[]]
def oneCells : Array Value := #[.nilFunc, .func (.func 46) #[] #[], .func (.func 47) #[] #[], .func (.func 48) #[] #[]]

set_option maxHeartbeats 400000 in
theorem onTwo_any (w : World) : Calls Tryd.prog 22 #[] w fun e w' => e = .returned (.agg twoCells) ∧ Kp w w' := by
  go_enter Tryd.func22, Tryd.ntmps22
  go_wp2_with (refine wpList_store_row rfl 34 _ _ rfl w.heap.size twoCells rfl rfl 34 _ (heap_alloc_new _ _) (by kernel_rfl) (by kernel_rfl) (by kernel_rfl) ?_; rw [World.setRow_alloc_new])
  exact bodyPost_ret (v := .agg twoCells) (results_cell_row rfl _ _ w.heap.size _ twoCells (0, 0) _ rfl (heap_alloc_new _ _) Tryd.underlying34 rfl (by kernel_rfl)) rfl ⟨rfl, (Kp.refl w).alloc _ _⟩

set_option maxHeartbeats 400000 in
theorem onOne_any (w : World) : Calls Tryd.prog 24 #[] w fun e w' => e = .returned (.agg oneCells) ∧ Kp w w' := by
  go_enter Tryd.func24, Tryd.ntmps24
  go_wp2_with (refine wpList_store_row rfl 37 _ _ rfl w.heap.size oneCells rfl rfl 37 _ (heap_alloc_new _ _) (by kernel_rfl) (by kernel_rfl) (by kernel_rfl) ?_; rw [World.setRow_alloc_new])
  exact bodyPost_ret (v := .agg oneCells) (results_cell_row rfl _ _ w.heap.size _ oneCells (0, 0) _ rfl (heap_alloc_new _ _) Tryd.underlying37 rfl (by kernel_rfl)) rfl ⟨rfl, (Kp.refl w).alloc _ _⟩

theorem isBin_yes (op : Int) (w : World) (h : 1 ≤ op) (h2 : op ≤ 19) : Calls Tryd.prog 20 #[.int .i64 op] w fun e w' => e = .returned (.bool true) ∧ w = w' := by
  go_enter Tryd.func20, Tryd.ntmps20
  go_wp2
  go_ret
  exact ⟨ret_bool (by simp <;> omega), rfl⟩
theorem isBin_no (op : Int) (w : World) (h : op < 1 ∨ 19 < op) : Calls Tryd.prog 20 #[.int .i64 op] w fun e w' => e = .returned (.bool false) ∧ w = w' := by
  rcases h with h | h
  · go_enter Tryd.func20, Tryd.ntmps20
    go_wp2
    go_ret
    exact ⟨rfl, rfl⟩
  · have h1 : 1 ≤ op := by omega
    go_enter Tryd.func20, Tryd.ntmps20
    go_wp2
    go_ret
    exact ⟨ret_bool (by simp <;> omega), rfl⟩

theorem divides_yes (op : Int) (w : World) (h : 4 ≤ op) (h2 : op ≤ 7) : Calls Tryd.prog 21 #[.int .i64 op] w fun e w' => e = .returned (.bool true) ∧ w = w' := by
  go_enter Tryd.func21, Tryd.ntmps21
  go_wp2
  go_ret
  exact ⟨ret_bool (by simp <;> omega), rfl⟩
theorem divides_no (op : Int) (w : World) (h : op < 4 ∨ 7 < op) : Calls Tryd.prog 21 #[.int .i64 op] w fun e w' => e = .returned (.bool false) ∧ w = w' := by
  rcases h with h | h
  · go_enter Tryd.func21, Tryd.ntmps21
    go_wp2
    go_ret
    exact ⟨rfl, rfl⟩
  · have h1 : 4 ≤ op := by omega
    go_enter Tryd.func21, Tryd.ntmps21
    go_wp2
    go_ret
    exact ⟨ret_bool (by simp <;> omega), rfl⟩

theorem isUn_yes (op : Int) (w : World) (h : 1 ≤ op) (h2 : op ≤ 3) : Calls Tryd.prog 23 #[.int .i64 op] w fun e w' => e = .returned (.bool true) ∧ w = w' := by
  go_enter Tryd.func23, Tryd.ntmps23
  go_wp2
  go_ret
  exact ⟨ret_bool (by simp <;> omega), rfl⟩
theorem isUn_no (op : Int) (w : World) (h : op < 1 ∨ 3 < op) : Calls Tryd.prog 23 #[.int .i64 op] w fun e w' => e = .returned (.bool false) ∧ w = w' := by
  rcases h with h | h
  · go_enter Tryd.func23, Tryd.ntmps23
    go_wp2
    go_ret
    exact ⟨rfl, rfl⟩
  · have h1 : 1 ≤ op := by omega
    go_enter Tryd.func23, Tryd.ntmps23
    go_wp2
    go_ret
    exact ⟨ret_bool (by simp <;> omega), rfl⟩

theorem do_bad (op a b : Int) (w : World) (h : op < 1 ∨ 19 < op) :
    Calls Tryd.prog 5 #[.int .i64 op, .int .u32 a, .int .u32 b] w fun e w' => e = .returned (.tuple #[.int .u32 0, .int .i64 2]) ∧ Kp w w' := by
  go_enter Tryd.func5, Tryd.ntmps5
  go_wp2_with (go_at_call 20; refine (isBin_no _ _ h).mono ?_; rintro e w1 ⟨rfl, rfl⟩)
  go_ret2
  exact ⟨rfl, Kp.refl _⟩
theorem do_zero (op a : Int) (w : World) (h : 4 ≤ op) (h2 : op ≤ 7) :
    Calls Tryd.prog 5 #[.int .i64 op, .int .u32 a, .int .u32 0] w fun e w' => e = .returned (.tuple #[.int .u32 0, .int .i64 12]) ∧ Kp w w' := by
  go_enter Tryd.func5, Tryd.ntmps5
  go_wp2_with (first | (go_at_call 20; refine (isBin_yes _ _ (by omega) (by omega)).mono ?_; rintro e w1 ⟨rfl, rfl⟩) | (go_at_call 21; refine (divides_yes _ _ (by omega) (by omega)).mono ?_; rintro e w1 ⟨rfl, rfl⟩))
  go_ret2
  exact ⟨rfl, Kp.refl _⟩
theorem one_bad (op a : Int) (w : World) (h : op < 1 ∨ 3 < op) :
    Calls Tryd.prog 6 #[.int .i64 op, .int .u32 a] w fun e w' => e = .returned (.tuple #[.int .u32 0, .int .i64 2]) ∧ Kp w w' := by
  go_enter Tryd.func6, Tryd.ntmps6
  go_wp2_with (go_at_call 23; refine (isUn_no _ _ h).mono ?_; rintro e w1 ⟨rfl, rfl⟩)
  go_ret2
  exact ⟨rfl, Kp.refl _⟩

set_option maxHeartbeats 400000 in
theorem do_1 (a b : Int) (w : World) (ha : 0 ≤ a) (ha' : a < 4294967296) (hb : 0 ≤ b) (hb' : b < 4294967296) :
    Calls Tryd.prog 5 #[.int .i64 1, .int .u32 a, .int .u32 b] w fun e w' => e = .returned (.tuple #[.int .u32 (bin 1 a b), .int .i64 0]) ∧ Kp w w' := by
  have hc : twoCells[1]? = some (.func (.func 26) #[] #[]) := rfl
  go_enter Tryd.func5, Tryd.ntmps5
  go_wp2_with (first | (go_at_call 20; refine (isBin_yes _ _ (by omega) (by omega)).mono ?_; rintro e w1 ⟨rfl, rfl⟩) | (go_at_call 21; refine (divides_no _ _ (by omega)).mono ?_; rintro e w1 ⟨rfl, rfl⟩) | fail)
  refine (onTwo_any _).mono ?_
  rintro e w1 ⟨rfl, hk⟩
  go_wp2_with (first | (refine wpList_store_row rfl 34 _ _ rfl w1.heap.size twoCells rfl rfl 34 _ (heap_alloc_new _ _) (by kernel_rfl) (by kernel_rfl) (by kernel_rfl) ?_; rw [World.setRow_alloc_new]) | (go_at_call 26; refine (op1 _ _ _ ha ha' hb hb').mono ?_; rintro e w2 ⟨rfl, rfl⟩))
  go_ret2
  exact ⟨rfl, hk.alloc _ _⟩

set_option maxHeartbeats 400000 in
theorem do_2 (a b : Int) (w : World) (ha : 0 ≤ a) (ha' : a < 4294967296) (hb : 0 ≤ b) (hb' : b < 4294967296) :
    Calls Tryd.prog 5 #[.int .i64 2, .int .u32 a, .int .u32 b] w fun e w' => e = .returned (.tuple #[.int .u32 (bin 2 a b), .int .i64 0]) ∧ Kp w w' := by
  have hc : twoCells[2]? = some (.func (.func 27) #[] #[]) := rfl
  go_enter Tryd.func5, Tryd.ntmps5
  go_wp2_with (first | (go_at_call 20; refine (isBin_yes _ _ (by omega) (by omega)).mono ?_; rintro e w1 ⟨rfl, rfl⟩) | (go_at_call 21; refine (divides_no _ _ (by omega)).mono ?_; rintro e w1 ⟨rfl, rfl⟩) | fail)
  refine (onTwo_any _).mono ?_
  rintro e w1 ⟨rfl, hk⟩
  go_wp2_with (first | (refine wpList_store_row rfl 34 _ _ rfl w1.heap.size twoCells rfl rfl 34 _ (heap_alloc_new _ _) (by kernel_rfl) (by kernel_rfl) (by kernel_rfl) ?_; rw [World.setRow_alloc_new]) | (go_at_call 27; refine (op2 _ _ _ ha ha' hb hb').mono ?_; rintro e w2 ⟨rfl, rfl⟩))
  go_ret2
  exact ⟨rfl, hk.alloc _ _⟩

set_option maxHeartbeats 400000 in
theorem do_3 (a b : Int) (w : World) (ha : 0 ≤ a) (ha' : a < 4294967296) (hb : 0 ≤ b) (hb' : b < 4294967296) :
    Calls Tryd.prog 5 #[.int .i64 3, .int .u32 a, .int .u32 b] w fun e w' => e = .returned (.tuple #[.int .u32 (bin 3 a b), .int .i64 0]) ∧ Kp w w' := by
  have hc : twoCells[3]? = some (.func (.func 28) #[] #[]) := rfl
  go_enter Tryd.func5, Tryd.ntmps5
  go_wp2_with (first | (go_at_call 20; refine (isBin_yes _ _ (by omega) (by omega)).mono ?_; rintro e w1 ⟨rfl, rfl⟩) | (go_at_call 21; refine (divides_no _ _ (by omega)).mono ?_; rintro e w1 ⟨rfl, rfl⟩) | fail)
  refine (onTwo_any _).mono ?_
  rintro e w1 ⟨rfl, hk⟩
  go_wp2_with (first | (refine wpList_store_row rfl 34 _ _ rfl w1.heap.size twoCells rfl rfl 34 _ (heap_alloc_new _ _) (by kernel_rfl) (by kernel_rfl) (by kernel_rfl) ?_; rw [World.setRow_alloc_new]) | (go_at_call 28; refine (op3 _ _ _ ha ha' hb hb').mono ?_; rintro e w2 ⟨rfl, rfl⟩))
  go_ret2
  exact ⟨rfl, hk.alloc _ _⟩

set_option maxHeartbeats 400000 in
theorem do_4 (a b : Int) (w : World) (ha : 0 ≤ a) (ha' : a < 4294967296) (hb : 0 ≤ b) (hb' : b < 4294967296) (hb0 : 0 < b) :
    Calls Tryd.prog 5 #[.int .i64 4, .int .u32 a, .int .u32 b] w fun e w' => e = .returned (.tuple #[.int .u32 (bin 4 a b), .int .i64 0]) ∧ Kp w w' := by
  have hc : twoCells[4]? = some (.func (.func 29) #[] #[]) := rfl
  go_enter Tryd.func5, Tryd.ntmps5
  go_wp2_with (first | (go_at_call 20; refine (isBin_yes _ _ (by omega) (by omega)).mono ?_; rintro e w1 ⟨rfl, rfl⟩) | (go_at_call 21; refine (divides_yes _ _ (by omega) (by omega)).mono ?_; rintro e w1 ⟨rfl, rfl⟩) | fail)
  refine (onTwo_any _).mono ?_
  rintro e w1 ⟨rfl, hk⟩
  go_wp2_with (first | (refine wpList_store_row rfl 34 _ _ rfl w1.heap.size twoCells rfl rfl 34 _ (heap_alloc_new _ _) (by kernel_rfl) (by kernel_rfl) (by kernel_rfl) ?_; rw [World.setRow_alloc_new]) | (go_at_call 29; refine (op4 _ _ _ ha ha' hb hb' hb0).mono ?_; rintro e w2 ⟨rfl, rfl⟩))
  go_ret2
  exact ⟨rfl, hk.alloc _ _⟩

set_option maxHeartbeats 400000 in
theorem do_5 (a b : Int) (w : World) (ha : 0 ≤ a) (ha' : a < 4294967296) (hb : 0 ≤ b) (hb' : b < 4294967296) (hb0 : 0 < b) :
    Calls Tryd.prog 5 #[.int .i64 5, .int .u32 a, .int .u32 b] w fun e w' => e = .returned (.tuple #[.int .u32 (bin 5 a b), .int .i64 0]) ∧ Kp w w' := by
  have hc : twoCells[5]? = some (.func (.func 30) #[] #[]) := rfl
  go_enter Tryd.func5, Tryd.ntmps5
  go_wp2_with (first | (go_at_call 20; refine (isBin_yes _ _ (by omega) (by omega)).mono ?_; rintro e w1 ⟨rfl, rfl⟩) | (go_at_call 21; refine (divides_yes _ _ (by omega) (by omega)).mono ?_; rintro e w1 ⟨rfl, rfl⟩) | fail)
  refine (onTwo_any _).mono ?_
  rintro e w1 ⟨rfl, hk⟩
  go_wp2_with (first | (refine wpList_store_row rfl 34 _ _ rfl w1.heap.size twoCells rfl rfl 34 _ (heap_alloc_new _ _) (by kernel_rfl) (by kernel_rfl) (by kernel_rfl) ?_; rw [World.setRow_alloc_new]) | (go_at_call 30; refine (op5 _ _ _ ha ha' hb hb' hb0).mono ?_; rintro e w2 ⟨rfl, rfl⟩))
  go_ret2
  exact ⟨rfl, hk.alloc _ _⟩

set_option maxHeartbeats 400000 in
theorem do_6 (a b : Int) (w : World) (ha : 0 ≤ a) (ha' : a < 4294967296) (hb : 0 ≤ b) (hb' : b < 4294967296) (hb0 : 0 < b) :
    Calls Tryd.prog 5 #[.int .i64 6, .int .u32 a, .int .u32 b] w fun e w' => e = .returned (.tuple #[.int .u32 (bin 6 a b), .int .i64 0]) ∧ Kp w w' := by
  have hc : twoCells[6]? = some (.func (.func 31) #[] #[]) := rfl
  go_enter Tryd.func5, Tryd.ntmps5
  go_wp2_with (first | (go_at_call 20; refine (isBin_yes _ _ (by omega) (by omega)).mono ?_; rintro e w1 ⟨rfl, rfl⟩) | (go_at_call 21; refine (divides_yes _ _ (by omega) (by omega)).mono ?_; rintro e w1 ⟨rfl, rfl⟩) | fail)
  refine (onTwo_any _).mono ?_
  rintro e w1 ⟨rfl, hk⟩
  go_wp2_with (first | (refine wpList_store_row rfl 34 _ _ rfl w1.heap.size twoCells rfl rfl 34 _ (heap_alloc_new _ _) (by kernel_rfl) (by kernel_rfl) (by kernel_rfl) ?_; rw [World.setRow_alloc_new]) | (go_at_call 31; refine (op6 _ _ _ ha ha' hb hb' hb0).mono ?_; rintro e w2 ⟨rfl, rfl⟩))
  go_ret2
  exact ⟨rfl, hk.alloc _ _⟩

set_option maxHeartbeats 400000 in
theorem do_7 (a b : Int) (w : World) (ha : 0 ≤ a) (ha' : a < 4294967296) (hb : 0 ≤ b) (hb' : b < 4294967296) (hb0 : 0 < b) :
    Calls Tryd.prog 5 #[.int .i64 7, .int .u32 a, .int .u32 b] w fun e w' => e = .returned (.tuple #[.int .u32 (bin 7 a b), .int .i64 0]) ∧ Kp w w' := by
  have hc : twoCells[7]? = some (.func (.func 32) #[] #[]) := rfl
  go_enter Tryd.func5, Tryd.ntmps5
  go_wp2_with (first | (go_at_call 20; refine (isBin_yes _ _ (by omega) (by omega)).mono ?_; rintro e w1 ⟨rfl, rfl⟩) | (go_at_call 21; refine (divides_yes _ _ (by omega) (by omega)).mono ?_; rintro e w1 ⟨rfl, rfl⟩) | fail)
  refine (onTwo_any _).mono ?_
  rintro e w1 ⟨rfl, hk⟩
  go_wp2_with (first | (refine wpList_store_row rfl 34 _ _ rfl w1.heap.size twoCells rfl rfl 34 _ (heap_alloc_new _ _) (by kernel_rfl) (by kernel_rfl) (by kernel_rfl) ?_; rw [World.setRow_alloc_new]) | (go_at_call 32; refine (op7 _ _ _ ha ha' hb hb' hb0).mono ?_; rintro e w2 ⟨rfl, rfl⟩))
  go_ret2
  exact ⟨rfl, hk.alloc _ _⟩

set_option maxHeartbeats 400000 in
theorem do_8 (a b : Int) (w : World) (ha : 0 ≤ a) (ha' : a < 4294967296) (hb : 0 ≤ b) (hb' : b < 4294967296) :
    Calls Tryd.prog 5 #[.int .i64 8, .int .u32 a, .int .u32 b] w fun e w' => e = .returned (.tuple #[.int .u32 (bin 8 a b), .int .i64 0]) ∧ Kp w w' := by
  have hc : twoCells[8]? = some (.func (.func 33) #[] #[]) := rfl
  go_enter Tryd.func5, Tryd.ntmps5
  go_wp2_with (first | (go_at_call 20; refine (isBin_yes _ _ (by omega) (by omega)).mono ?_; rintro e w1 ⟨rfl, rfl⟩) | (go_at_call 21; refine (divides_no _ _ (by omega)).mono ?_; rintro e w1 ⟨rfl, rfl⟩) | fail)
  refine (onTwo_any _).mono ?_
  rintro e w1 ⟨rfl, hk⟩
  go_wp2_with (first | (refine wpList_store_row rfl 34 _ _ rfl w1.heap.size twoCells rfl rfl 34 _ (heap_alloc_new _ _) (by kernel_rfl) (by kernel_rfl) (by kernel_rfl) ?_; rw [World.setRow_alloc_new]) | (go_at_call 33; refine (op8 _ _ _ ha ha' hb hb').mono ?_; rintro e w2 ⟨rfl, rfl⟩))
  go_ret2
  exact ⟨rfl, hk.alloc _ _⟩

set_option maxHeartbeats 400000 in
theorem do_9 (a b : Int) (w : World) (ha : 0 ≤ a) (ha' : a < 4294967296) (hb : 0 ≤ b) (hb' : b < 4294967296) :
    Calls Tryd.prog 5 #[.int .i64 9, .int .u32 a, .int .u32 b] w fun e w' => e = .returned (.tuple #[.int .u32 (bin 9 a b), .int .i64 0]) ∧ Kp w w' := by
  have hc : twoCells[9]? = some (.func (.func 34) #[] #[]) := rfl
  go_enter Tryd.func5, Tryd.ntmps5
  go_wp2_with (first | (go_at_call 20; refine (isBin_yes _ _ (by omega) (by omega)).mono ?_; rintro e w1 ⟨rfl, rfl⟩) | (go_at_call 21; refine (divides_no _ _ (by omega)).mono ?_; rintro e w1 ⟨rfl, rfl⟩) | fail)
  refine (onTwo_any _).mono ?_
  rintro e w1 ⟨rfl, hk⟩
  go_wp2_with (first | (refine wpList_store_row rfl 34 _ _ rfl w1.heap.size twoCells rfl rfl 34 _ (heap_alloc_new _ _) (by kernel_rfl) (by kernel_rfl) (by kernel_rfl) ?_; rw [World.setRow_alloc_new]) | (go_at_call 34; refine (op9 _ _ _ ha ha' hb hb').mono ?_; rintro e w2 ⟨rfl, rfl⟩))
  go_ret2
  exact ⟨rfl, hk.alloc _ _⟩

set_option maxHeartbeats 400000 in
theorem do_10 (a b : Int) (w : World) (ha : 0 ≤ a) (ha' : a < 4294967296) (hb : 0 ≤ b) (hb' : b < 4294967296) :
    Calls Tryd.prog 5 #[.int .i64 10, .int .u32 a, .int .u32 b] w fun e w' => e = .returned (.tuple #[.int .u32 (bin 10 a b), .int .i64 0]) ∧ Kp w w' := by
  have hc : twoCells[10]? = some (.func (.func 35) #[] #[]) := rfl
  go_enter Tryd.func5, Tryd.ntmps5
  go_wp2_with (first | (go_at_call 20; refine (isBin_yes _ _ (by omega) (by omega)).mono ?_; rintro e w1 ⟨rfl, rfl⟩) | (go_at_call 21; refine (divides_no _ _ (by omega)).mono ?_; rintro e w1 ⟨rfl, rfl⟩) | fail)
  refine (onTwo_any _).mono ?_
  rintro e w1 ⟨rfl, hk⟩
  go_wp2_with (first | (refine wpList_store_row rfl 34 _ _ rfl w1.heap.size twoCells rfl rfl 34 _ (heap_alloc_new _ _) (by kernel_rfl) (by kernel_rfl) (by kernel_rfl) ?_; rw [World.setRow_alloc_new]) | (go_at_call 35; refine (op10 _ _ _ ha ha' hb hb').mono ?_; rintro e w2 ⟨rfl, rfl⟩))
  go_ret2
  exact ⟨rfl, hk.alloc _ _⟩

set_option maxHeartbeats 400000 in
theorem do_11 (a b : Int) (w : World) (ha : 0 ≤ a) (ha' : a < 4294967296) (hb : 0 ≤ b) (hb' : b < 4294967296) :
    Calls Tryd.prog 5 #[.int .i64 11, .int .u32 a, .int .u32 b] w fun e w' => e = .returned (.tuple #[.int .u32 (bin 11 a b), .int .i64 0]) ∧ Kp w w' := by
  have hc : twoCells[11]? = some (.func (.func 36) #[] #[]) := rfl
  go_enter Tryd.func5, Tryd.ntmps5
  go_wp2_with (first | (go_at_call 20; refine (isBin_yes _ _ (by omega) (by omega)).mono ?_; rintro e w1 ⟨rfl, rfl⟩) | (go_at_call 21; refine (divides_no _ _ (by omega)).mono ?_; rintro e w1 ⟨rfl, rfl⟩) | fail)
  refine (onTwo_any _).mono ?_
  rintro e w1 ⟨rfl, hk⟩
  go_wp2_with (first | (refine wpList_store_row rfl 34 _ _ rfl w1.heap.size twoCells rfl rfl 34 _ (heap_alloc_new _ _) (by kernel_rfl) (by kernel_rfl) (by kernel_rfl) ?_; rw [World.setRow_alloc_new]) | (go_at_call 36; refine (op11 _ _ _ ha ha' hb hb').mono ?_; rintro e w2 ⟨rfl, rfl⟩))
  go_ret2
  exact ⟨rfl, hk.alloc _ _⟩

set_option maxHeartbeats 400000 in
theorem do_12 (a b : Int) (w : World) (ha : 0 ≤ a) (ha' : a < 4294967296) (hb : 0 ≤ b) (hb' : b < 4294967296) :
    Calls Tryd.prog 5 #[.int .i64 12, .int .u32 a, .int .u32 b] w fun e w' => e = .returned (.tuple #[.int .u32 (bin 12 a b), .int .i64 0]) ∧ Kp w w' := by
  have hc : twoCells[12]? = some (.func (.func 37) #[] #[]) := rfl
  go_enter Tryd.func5, Tryd.ntmps5
  go_wp2_with (first | (go_at_call 20; refine (isBin_yes _ _ (by omega) (by omega)).mono ?_; rintro e w1 ⟨rfl, rfl⟩) | (go_at_call 21; refine (divides_no _ _ (by omega)).mono ?_; rintro e w1 ⟨rfl, rfl⟩) | fail)
  refine (onTwo_any _).mono ?_
  rintro e w1 ⟨rfl, hk⟩
  go_wp2_with (first | (refine wpList_store_row rfl 34 _ _ rfl w1.heap.size twoCells rfl rfl 34 _ (heap_alloc_new _ _) (by kernel_rfl) (by kernel_rfl) (by kernel_rfl) ?_; rw [World.setRow_alloc_new]) | (go_at_call 37; refine (op12 _ _ _ ha ha' hb hb').mono ?_; rintro e w2 ⟨rfl, rfl⟩))
  go_ret2
  exact ⟨rfl, hk.alloc _ _⟩

set_option maxHeartbeats 400000 in
theorem do_13 (a b : Int) (w : World) (ha : 0 ≤ a) (ha' : a < 4294967296) (hb : 0 ≤ b) (hb' : b < 4294967296) :
    Calls Tryd.prog 5 #[.int .i64 13, .int .u32 a, .int .u32 b] w fun e w' => e = .returned (.tuple #[.int .u32 (bin 13 a b), .int .i64 0]) ∧ Kp w w' := by
  have hc : twoCells[13]? = some (.func (.func 38) #[] #[]) := rfl
  go_enter Tryd.func5, Tryd.ntmps5
  go_wp2_with (first | (go_at_call 20; refine (isBin_yes _ _ (by omega) (by omega)).mono ?_; rintro e w1 ⟨rfl, rfl⟩) | (go_at_call 21; refine (divides_no _ _ (by omega)).mono ?_; rintro e w1 ⟨rfl, rfl⟩) | fail)
  refine (onTwo_any _).mono ?_
  rintro e w1 ⟨rfl, hk⟩
  go_wp2_with (first | (refine wpList_store_row rfl 34 _ _ rfl w1.heap.size twoCells rfl rfl 34 _ (heap_alloc_new _ _) (by kernel_rfl) (by kernel_rfl) (by kernel_rfl) ?_; rw [World.setRow_alloc_new]) | (go_at_call 38; refine (op13 _ _ _ ha ha' hb hb').mono ?_; rintro e w2 ⟨rfl, rfl⟩))
  go_ret2
  exact ⟨rfl, hk.alloc _ _⟩

set_option maxHeartbeats 400000 in
theorem do_14 (a b : Int) (w : World) (ha : 0 ≤ a) (ha' : a < 4294967296) (hb : 0 ≤ b) (hb' : b < 4294967296) :
    Calls Tryd.prog 5 #[.int .i64 14, .int .u32 a, .int .u32 b] w fun e w' => e = .returned (.tuple #[.int .u32 (bin 14 a b), .int .i64 0]) ∧ Kp w w' := by
  have hc : twoCells[14]? = some (.func (.func 39) #[] #[]) := rfl
  go_enter Tryd.func5, Tryd.ntmps5
  go_wp2_with (first | (go_at_call 20; refine (isBin_yes _ _ (by omega) (by omega)).mono ?_; rintro e w1 ⟨rfl, rfl⟩) | (go_at_call 21; refine (divides_no _ _ (by omega)).mono ?_; rintro e w1 ⟨rfl, rfl⟩) | fail)
  refine (onTwo_any _).mono ?_
  rintro e w1 ⟨rfl, hk⟩
  go_wp2_with (first | (refine wpList_store_row rfl 34 _ _ rfl w1.heap.size twoCells rfl rfl 34 _ (heap_alloc_new _ _) (by kernel_rfl) (by kernel_rfl) (by kernel_rfl) ?_; rw [World.setRow_alloc_new]) | (go_at_call 39; refine (op14 _ _ _ ha ha' hb hb').mono ?_; rintro e w2 ⟨rfl, rfl⟩))
  go_ret2
  exact ⟨rfl, hk.alloc _ _⟩

set_option maxHeartbeats 400000 in
theorem do_15 (a b : Int) (w : World) (ha : 0 ≤ a) (ha' : a < 4294967296) (hb : 0 ≤ b) (hb' : b < 4294967296) :
    Calls Tryd.prog 5 #[.int .i64 15, .int .u32 a, .int .u32 b] w fun e w' => e = .returned (.tuple #[.int .u32 (bin 15 a b), .int .i64 0]) ∧ Kp w w' := by
  have hc : twoCells[15]? = some (.func (.func 41) #[] #[]) := rfl
  go_enter Tryd.func5, Tryd.ntmps5
  go_wp2_with (first | (go_at_call 20; refine (isBin_yes _ _ (by omega) (by omega)).mono ?_; rintro e w1 ⟨rfl, rfl⟩) | (go_at_call 21; refine (divides_no _ _ (by omega)).mono ?_; rintro e w1 ⟨rfl, rfl⟩) | fail)
  refine (onTwo_any _).mono ?_
  rintro e w1 ⟨rfl, hk⟩
  go_wp2_with (first | (refine wpList_store_row rfl 34 _ _ rfl w1.heap.size twoCells rfl rfl 34 _ (heap_alloc_new _ _) (by kernel_rfl) (by kernel_rfl) (by kernel_rfl) ?_; rw [World.setRow_alloc_new]) | (go_at_call 41; refine (op15 _ _ _ ha ha' hb hb').mono ?_; rintro e w2 ⟨rfl, rfl⟩))
  go_ret2
  exact ⟨rfl, hk.alloc _ _⟩

set_option maxHeartbeats 400000 in
theorem do_16 (a b : Int) (w : World) (ha : 0 ≤ a) (ha' : a < 4294967296) (hb : 0 ≤ b) (hb' : b < 4294967296) :
    Calls Tryd.prog 5 #[.int .i64 16, .int .u32 a, .int .u32 b] w fun e w' => e = .returned (.tuple #[.int .u32 (bin 16 a b), .int .i64 0]) ∧ Kp w w' := by
  have hc : twoCells[16]? = some (.func (.func 42) #[] #[]) := rfl
  go_enter Tryd.func5, Tryd.ntmps5
  go_wp2_with (first | (go_at_call 20; refine (isBin_yes _ _ (by omega) (by omega)).mono ?_; rintro e w1 ⟨rfl, rfl⟩) | (go_at_call 21; refine (divides_no _ _ (by omega)).mono ?_; rintro e w1 ⟨rfl, rfl⟩) | fail)
  refine (onTwo_any _).mono ?_
  rintro e w1 ⟨rfl, hk⟩
  go_wp2_with (first | (refine wpList_store_row rfl 34 _ _ rfl w1.heap.size twoCells rfl rfl 34 _ (heap_alloc_new _ _) (by kernel_rfl) (by kernel_rfl) (by kernel_rfl) ?_; rw [World.setRow_alloc_new]) | (go_at_call 42; refine (op16 _ _ _ ha ha' hb hb').mono ?_; rintro e w2 ⟨rfl, rfl⟩))
  go_ret2
  exact ⟨rfl, hk.alloc _ _⟩

set_option maxHeartbeats 400000 in
theorem do_17 (a b : Int) (w : World) (ha : 0 ≤ a) (ha' : a < 4294967296) (hb : 0 ≤ b) (hb' : b < 4294967296) :
    Calls Tryd.prog 5 #[.int .i64 17, .int .u32 a, .int .u32 b] w fun e w' => e = .returned (.tuple #[.int .u32 (bin 17 a b), .int .i64 0]) ∧ Kp w w' := by
  have hc : twoCells[17]? = some (.func (.func 43) #[] #[]) := rfl
  go_enter Tryd.func5, Tryd.ntmps5
  go_wp2_with (first | (go_at_call 20; refine (isBin_yes _ _ (by omega) (by omega)).mono ?_; rintro e w1 ⟨rfl, rfl⟩) | (go_at_call 21; refine (divides_no _ _ (by omega)).mono ?_; rintro e w1 ⟨rfl, rfl⟩) | fail)
  refine (onTwo_any _).mono ?_
  rintro e w1 ⟨rfl, hk⟩
  go_wp2_with (first | (refine wpList_store_row rfl 34 _ _ rfl w1.heap.size twoCells rfl rfl 34 _ (heap_alloc_new _ _) (by kernel_rfl) (by kernel_rfl) (by kernel_rfl) ?_; rw [World.setRow_alloc_new]) | (go_at_call 43; refine (op17 _ _ _ ha ha' hb hb').mono ?_; rintro e w2 ⟨rfl, rfl⟩))
  go_ret2
  exact ⟨rfl, hk.alloc _ _⟩

set_option maxHeartbeats 400000 in
theorem do_18 (a b : Int) (w : World) (ha : 0 ≤ a) (ha' : a < 4294967296) (hb : 0 ≤ b) (hb' : b < 4294967296) :
    Calls Tryd.prog 5 #[.int .i64 18, .int .u32 a, .int .u32 b] w fun e w' => e = .returned (.tuple #[.int .u32 (bin 18 a b), .int .i64 0]) ∧ Kp w w' := by
  have hc : twoCells[18]? = some (.func (.func 44) #[] #[]) := rfl
  go_enter Tryd.func5, Tryd.ntmps5
  go_wp2_with (first | (go_at_call 20; refine (isBin_yes _ _ (by omega) (by omega)).mono ?_; rintro e w1 ⟨rfl, rfl⟩) | (go_at_call 21; refine (divides_no _ _ (by omega)).mono ?_; rintro e w1 ⟨rfl, rfl⟩) | fail)
  refine (onTwo_any _).mono ?_
  rintro e w1 ⟨rfl, hk⟩
  go_wp2_with (first | (refine wpList_store_row rfl 34 _ _ rfl w1.heap.size twoCells rfl rfl 34 _ (heap_alloc_new _ _) (by kernel_rfl) (by kernel_rfl) (by kernel_rfl) ?_; rw [World.setRow_alloc_new]) | (go_at_call 44; refine (op18 _ _ _ ha ha' hb hb').mono ?_; rintro e w2 ⟨rfl, rfl⟩))
  go_ret2
  exact ⟨rfl, hk.alloc _ _⟩

set_option maxHeartbeats 400000 in
theorem do_19 (a b : Int) (w : World) (ha : 0 ≤ a) (ha' : a < 4294967296) (hb : 0 ≤ b) (hb' : b < 4294967296) :
    Calls Tryd.prog 5 #[.int .i64 19, .int .u32 a, .int .u32 b] w fun e w' => e = .returned (.tuple #[.int .u32 (bin 19 a b), .int .i64 0]) ∧ Kp w w' := by
  have hc : twoCells[19]? = some (.func (.func 45) #[] #[]) := rfl
  go_enter Tryd.func5, Tryd.ntmps5
  go_wp2_with (first | (go_at_call 20; refine (isBin_yes _ _ (by omega) (by omega)).mono ?_; rintro e w1 ⟨rfl, rfl⟩) | (go_at_call 21; refine (divides_no _ _ (by omega)).mono ?_; rintro e w1 ⟨rfl, rfl⟩) | fail)
  refine (onTwo_any _).mono ?_
  rintro e w1 ⟨rfl, hk⟩
  go_wp2_with (first | (refine wpList_store_row rfl 34 _ _ rfl w1.heap.size twoCells rfl rfl 34 _ (heap_alloc_new _ _) (by kernel_rfl) (by kernel_rfl) (by kernel_rfl) ?_; rw [World.setRow_alloc_new]) | (go_at_call 45; refine (op19 _ _ _ ha ha' hb hb').mono ?_; rintro e w2 ⟨rfl, rfl⟩))
  go_ret2
  exact ⟨rfl, hk.alloc _ _⟩

set_option maxHeartbeats 400000 in
theorem one_1 (a : Int) (w : World) (ha : 0 ≤ a) (ha' : a < 4294967296) :
    Calls Tryd.prog 6 #[.int .i64 1, .int .u32 a] w fun e w' => e = .returned (.tuple #[.int .u32 (un 1 a), .int .i64 0]) ∧ Kp w w' := by
  have hc : oneCells[1]? = some (.func (.func 46) #[] #[]) := rfl
  go_enter Tryd.func6, Tryd.ntmps6
  go_wp2_with (first | (go_at_call 23; refine (isUn_yes _ _ (by omega) (by omega)).mono ?_; rintro e w1 ⟨rfl, rfl⟩) | fail)
  refine (onOne_any _).mono ?_
  rintro e w1 ⟨rfl, hk⟩
  go_wp2_with (first | (refine wpList_store_row rfl 37 _ _ rfl w1.heap.size oneCells rfl rfl 37 _ (heap_alloc_new _ _) (by kernel_rfl) (by kernel_rfl) (by kernel_rfl) ?_; rw [World.setRow_alloc_new]) | (go_at_call 46; refine (un1 _ _ ha ha').mono ?_; rintro e w2 ⟨rfl, rfl⟩))
  go_ret2
  exact ⟨rfl, hk.alloc _ _⟩

set_option maxHeartbeats 400000 in
theorem one_2 (a : Int) (w : World) (ha : 0 ≤ a) (ha' : a < 4294967296) :
    Calls Tryd.prog 6 #[.int .i64 2, .int .u32 a] w fun e w' => e = .returned (.tuple #[.int .u32 (un 2 a), .int .i64 0]) ∧ Kp w w' := by
  have hc : oneCells[2]? = some (.func (.func 47) #[] #[]) := rfl
  go_enter Tryd.func6, Tryd.ntmps6
  go_wp2_with (first | (go_at_call 23; refine (isUn_yes _ _ (by omega) (by omega)).mono ?_; rintro e w1 ⟨rfl, rfl⟩) | fail)
  refine (onOne_any _).mono ?_
  rintro e w1 ⟨rfl, hk⟩
  go_wp2_with (first | (refine wpList_store_row rfl 37 _ _ rfl w1.heap.size oneCells rfl rfl 37 _ (heap_alloc_new _ _) (by kernel_rfl) (by kernel_rfl) (by kernel_rfl) ?_; rw [World.setRow_alloc_new]) | (go_at_call 47; refine (un2 _ _ ha ha').mono ?_; rintro e w2 ⟨rfl, rfl⟩))
  go_ret2
  exact ⟨rfl, hk.alloc _ _⟩

set_option maxHeartbeats 400000 in
theorem one_3 (a : Int) (w : World) (ha : 0 ≤ a) (ha' : a < 4294967296) :
    Calls Tryd.prog 6 #[.int .i64 3, .int .u32 a] w fun e w' => e = .returned (.tuple #[.int .u32 (un 3 a), .int .i64 0]) ∧ Kp w w' := by
  have hc : oneCells[3]? = some (.func (.func 48) #[] #[]) := rfl
  go_enter Tryd.func6, Tryd.ntmps6
  go_wp2_with (first | (go_at_call 23; refine (isUn_yes _ _ (by omega) (by omega)).mono ?_; rintro e w1 ⟨rfl, rfl⟩) | fail)
  refine (onOne_any _).mono ?_
  rintro e w1 ⟨rfl, hk⟩
  go_wp2_with (first | (refine wpList_store_row rfl 37 _ _ rfl w1.heap.size oneCells rfl rfl 37 _ (heap_alloc_new _ _) (by kernel_rfl) (by kernel_rfl) (by kernel_rfl) ?_; rw [World.setRow_alloc_new]) | (go_at_call 48; refine (un3 _ _ ha ha').mono ?_; rintro e w2 ⟨rfl, rfl⟩))
  go_ret2
  exact ⟨rfl, hk.alloc _ _⟩

/-- P1.1: Do returns what the chapter says, whatever the operator and the words. -/
theorem do_any (op a b : Int) (w : World) (ha : 0 ≤ a) (ha' : a < 4294967296) (hb : 0 ≤ b) (hb' : b < 4294967296) :
    Calls Tryd.prog 5 #[.int .i64 op, .int .u32 a, .int .u32 b] w fun e w' => e = .returned (.tuple #[.int .u32 (val op a b), .int .i64 (err op b)]) ∧ Kp w w' := by
  by_cases h : op < 1 ∨ 19 < op
  · rw [val_bad h, err_bad h]; exact do_bad op a b w h
  · by_cases hz : 4 ≤ op ∧ op ≤ 7 ∧ b = 0
    · obtain ⟨h1, h2, rfl⟩ := hz
      rw [val_zero ⟨h1, h2⟩ rfl, err_zero ⟨h1, h2⟩ rfl]; exact do_zero op a w h1 h2
    · rw [val_ok (by omega) hz, err_ok (by omega) hz]
      have hop : op = 1 ∨ op = 2 ∨ op = 3 ∨ op = 4 ∨ op = 5 ∨ op = 6 ∨ op = 7 ∨ op = 8 ∨ op = 9 ∨ op = 10 ∨ op = 11 ∨ op = 12 ∨ op = 13 ∨ op = 14 ∨ op = 15 ∨ op = 16 ∨ op = 17 ∨ op = 18 ∨ op = 19 := by omega
      rcases hop with rfl | rfl | rfl | rfl | rfl | rfl | rfl | rfl | rfl | rfl | rfl | rfl | rfl | rfl | rfl | rfl | rfl | rfl | rfl
      · exact do_1 a b w ha ha' hb hb'
      · exact do_2 a b w ha ha' hb hb'
      · exact do_3 a b w ha ha' hb hb'
      · exact do_4 a b w ha ha' hb hb' (by omega)
      · exact do_5 a b w ha ha' hb hb' (by omega)
      · exact do_6 a b w ha ha' hb hb' (by omega)
      · exact do_7 a b w ha ha' hb hb' (by omega)
      · exact do_8 a b w ha ha' hb hb'
      · exact do_9 a b w ha ha' hb hb'
      · exact do_10 a b w ha ha' hb hb'
      · exact do_11 a b w ha ha' hb hb'
      · exact do_12 a b w ha ha' hb hb'
      · exact do_13 a b w ha ha' hb hb'
      · exact do_14 a b w ha ha' hb hb'
      · exact do_15 a b w ha ha' hb hb'
      · exact do_16 a b w ha ha' hb hb'
      · exact do_17 a b w ha ha' hb hb'
      · exact do_18 a b w ha ha' hb hb'
      · exact do_19 a b w ha ha' hb hb'

theorem one_any (op a : Int) (w : World) (ha : 0 ≤ a) (ha' : a < 4294967296) :
    Calls Tryd.prog 6 #[.int .i64 op, .int .u32 a] w fun e w' => e = .returned (.tuple #[.int .u32 (unVal op a), .int .i64 (unErr op)]) ∧ Kp w w' := by
  by_cases h : op < 1 ∨ 3 < op
  · unfold unVal unErr; rw [if_pos h, if_pos h]; exact one_bad op a w h
  · unfold unVal unErr; rw [if_neg h, if_neg h]
    have hop : op = 1 ∨ op = 2 ∨ op = 3 := by omega
    rcases hop with rfl | rfl | rfl
    · exact one_1 a w ha ha'
    · exact one_2 a w ha ha'
    · exact one_3 a w ha ha'

end Wd
end Go.Proofs.YtcabnckinkdloaaDoor
