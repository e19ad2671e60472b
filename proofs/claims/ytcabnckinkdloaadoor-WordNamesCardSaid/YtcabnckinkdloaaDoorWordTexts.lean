/-
  WALKS: symbols and names of operators, by the tables of package word and by the document's own answer. Own work.
-/
import Derived.Test.YtcabnckinkdloaaDoorWordRef
namespace Go.Proofs.YtcabnckinkdloaaDoor
namespace Wd
open Go.RowKit Go
set_option linter.unusedVariables false

def signList : List (List UInt8) := [[], [43], [45], [42], [47], [37], [115, 47], [115, 37], [38], [124], [94], [60, 60], [62, 62], [115, 62, 62], [61, 61], [33, 61], [60], [60, 61], [115, 60], [115, 60, 61]]
def nameList : List (List UInt8) := [[], [110, 101, 103], [110, 111, 116], [122, 101, 114, 111]]
def bytesOf (l : List UInt8) : ByteArray := ⟨l.toArray⟩
def signText (op : Int) : ByteArray := if op < 1 ∨ 19 < op then bytesOf [] else bytesOf (signList.getD op.toNat [])
def nameText (op : Int) : ByteArray := if op < 1 ∨ 3 < op then bytesOf [] else bytesOf (nameList.getD op.toNat [])
/-- The tables of package word, in memory. -/
def SignsIn (w : World) : Prop := ∀ i, i < 20 → w.cell? ⟨0, i, none⟩ = some (.string (bytesOf (signList.getD i [])))
def NamesIn (w : World) : Prop := ∀ i, i < 4 → w.cell? ⟨1, i, none⟩ = some (.string (bytesOf (nameList.getD i [])))
theorem block_of_cell {w : World} {a : Addr} {v : Value} (h : w.cell? a = some v) : a.block < w.heap.size := by
  by_cases hs : a.block < w.heap.size
  · exact hs
  · have hn : w.heap[a.block]? = none := Array.getElem?_eq_none (by omega)
    unfold World.cell? at h
    simp [hn] at h
theorem SignsIn.kept {w w' : World} (h : SignsIn w) (k : Kp w w') : SignsIn w' := fun i hi => (k.cell (block_of_cell (h i hi))).trans (h i hi)
theorem NamesIn.kept {w w' : World} (h : NamesIn w) (k : Kp w w') : NamesIn w' := fun i hi => (k.cell (block_of_cell (h i hi))).trans (h i hi)

set_option maxHeartbeats 400000 in
theorem Sign_in (op : Int) (w : World) (S : ByteArray) (h : 1 ≤ op) (h2 : op ≤ 19) (hc : w.cell? ⟨0, op.toNat, none⟩ = some (.string S)) :
    Calls Tryd.prog 9 #[.int .i64 op] w fun e w' => e = .returned (.string S) ∧ w = w' := by
  go_enter Tryd.func9, Tryd.ntmps9
  go_wp2_with (go_at_call 20; refine (isBin_yes _ _ h h2).mono ?_; rintro e w1 ⟨rfl, rfl⟩)
  go_ret
  exact ⟨rfl, rfl⟩
theorem Sign_out (op : Int) (w : World) (h : op < 1 ∨ 19 < op) :
    Calls Tryd.prog 9 #[.int .i64 op] w fun e w' => e = .returned (.string (bytesOf [])) ∧ w = w' := by
  go_enter Tryd.func9, Tryd.ntmps9
  go_wp2_with (go_at_call 20; refine (isBin_no _ _ h).mono ?_; rintro e w1 ⟨rfl, rfl⟩)
  go_ret
  exact ⟨rfl, rfl⟩
theorem Sign_any {w : World} (hs : SignsIn w) (op : Int) :
    Calls Tryd.prog 9 #[.int .i64 op] w fun e w' => e = .returned (.string (signText op)) ∧ w = w' := by
  by_cases h : op < 1 ∨ 19 < op
  · have e : signText op = bytesOf [] := by unfold signText; rw [if_pos h]
    rw [e]; exact Sign_out op w h
  · have e : signText op = bytesOf (signList.getD op.toNat []) := by unfold signText; rw [if_neg h]
    rw [e]; exact Sign_in op w _ (by omega) (by omega) (hs _ (by omega))

set_option maxHeartbeats 400000 in
theorem rSign_1 (w : World) :
    Calls Tryd.prog 17 #[.int .i64 1] w fun e w' => e = .returned (.string (signText 1)) ∧ Kp w w' := by
  go_enter Tryd.func17, Tryd.ntmps17
  go_wp2
  go_ret
  exact ⟨rfl, (Kp.refl w).alloc _ _⟩

set_option maxHeartbeats 400000 in
theorem rSign_2 (w : World) :
    Calls Tryd.prog 17 #[.int .i64 2] w fun e w' => e = .returned (.string (signText 2)) ∧ Kp w w' := by
  go_enter Tryd.func17, Tryd.ntmps17
  go_wp2
  go_ret
  exact ⟨rfl, (Kp.refl w).alloc _ _⟩

set_option maxHeartbeats 400000 in
theorem rSign_3 (w : World) :
    Calls Tryd.prog 17 #[.int .i64 3] w fun e w' => e = .returned (.string (signText 3)) ∧ Kp w w' := by
  go_enter Tryd.func17, Tryd.ntmps17
  go_wp2
  go_ret
  exact ⟨rfl, (Kp.refl w).alloc _ _⟩

set_option maxHeartbeats 400000 in
theorem rSign_4 (w : World) :
    Calls Tryd.prog 17 #[.int .i64 4] w fun e w' => e = .returned (.string (signText 4)) ∧ Kp w w' := by
  go_enter Tryd.func17, Tryd.ntmps17
  go_wp2
  go_ret
  exact ⟨rfl, (Kp.refl w).alloc _ _⟩

set_option maxHeartbeats 400000 in
theorem rSign_5 (w : World) :
    Calls Tryd.prog 17 #[.int .i64 5] w fun e w' => e = .returned (.string (signText 5)) ∧ Kp w w' := by
  go_enter Tryd.func17, Tryd.ntmps17
  go_wp2
  go_ret
  exact ⟨rfl, (Kp.refl w).alloc _ _⟩

set_option maxHeartbeats 400000 in
theorem rSign_6 (w : World) :
    Calls Tryd.prog 17 #[.int .i64 6] w fun e w' => e = .returned (.string (signText 6)) ∧ Kp w w' := by
  go_enter Tryd.func17, Tryd.ntmps17
  go_wp2
  go_ret
  exact ⟨rfl, (Kp.refl w).alloc _ _⟩

set_option maxHeartbeats 400000 in
theorem rSign_7 (w : World) :
    Calls Tryd.prog 17 #[.int .i64 7] w fun e w' => e = .returned (.string (signText 7)) ∧ Kp w w' := by
  go_enter Tryd.func17, Tryd.ntmps17
  go_wp2
  go_ret
  exact ⟨rfl, (Kp.refl w).alloc _ _⟩

set_option maxHeartbeats 400000 in
theorem rSign_8 (w : World) :
    Calls Tryd.prog 17 #[.int .i64 8] w fun e w' => e = .returned (.string (signText 8)) ∧ Kp w w' := by
  go_enter Tryd.func17, Tryd.ntmps17
  go_wp2
  go_ret
  exact ⟨rfl, (Kp.refl w).alloc _ _⟩

set_option maxHeartbeats 400000 in
theorem rSign_9 (w : World) :
    Calls Tryd.prog 17 #[.int .i64 9] w fun e w' => e = .returned (.string (signText 9)) ∧ Kp w w' := by
  go_enter Tryd.func17, Tryd.ntmps17
  go_wp2
  go_ret
  exact ⟨rfl, (Kp.refl w).alloc _ _⟩

set_option maxHeartbeats 400000 in
theorem rSign_10 (w : World) :
    Calls Tryd.prog 17 #[.int .i64 10] w fun e w' => e = .returned (.string (signText 10)) ∧ Kp w w' := by
  go_enter Tryd.func17, Tryd.ntmps17
  go_wp2
  go_ret
  exact ⟨rfl, (Kp.refl w).alloc _ _⟩

set_option maxHeartbeats 400000 in
theorem rSign_11 (w : World) :
    Calls Tryd.prog 17 #[.int .i64 11] w fun e w' => e = .returned (.string (signText 11)) ∧ Kp w w' := by
  go_enter Tryd.func17, Tryd.ntmps17
  go_wp2
  go_ret
  exact ⟨rfl, (Kp.refl w).alloc _ _⟩

set_option maxHeartbeats 400000 in
theorem rSign_12 (w : World) :
    Calls Tryd.prog 17 #[.int .i64 12] w fun e w' => e = .returned (.string (signText 12)) ∧ Kp w w' := by
  go_enter Tryd.func17, Tryd.ntmps17
  go_wp2
  go_ret
  exact ⟨rfl, (Kp.refl w).alloc _ _⟩

set_option maxHeartbeats 400000 in
theorem rSign_13 (w : World) :
    Calls Tryd.prog 17 #[.int .i64 13] w fun e w' => e = .returned (.string (signText 13)) ∧ Kp w w' := by
  go_enter Tryd.func17, Tryd.ntmps17
  go_wp2
  go_ret
  exact ⟨rfl, (Kp.refl w).alloc _ _⟩

set_option maxHeartbeats 400000 in
theorem rSign_14 (w : World) :
    Calls Tryd.prog 17 #[.int .i64 14] w fun e w' => e = .returned (.string (signText 14)) ∧ Kp w w' := by
  go_enter Tryd.func17, Tryd.ntmps17
  go_wp2
  go_ret
  exact ⟨rfl, (Kp.refl w).alloc _ _⟩

set_option maxHeartbeats 400000 in
theorem rSign_15 (w : World) :
    Calls Tryd.prog 17 #[.int .i64 15] w fun e w' => e = .returned (.string (signText 15)) ∧ Kp w w' := by
  go_enter Tryd.func17, Tryd.ntmps17
  go_wp2
  go_ret
  exact ⟨rfl, (Kp.refl w).alloc _ _⟩

set_option maxHeartbeats 400000 in
theorem rSign_16 (w : World) :
    Calls Tryd.prog 17 #[.int .i64 16] w fun e w' => e = .returned (.string (signText 16)) ∧ Kp w w' := by
  go_enter Tryd.func17, Tryd.ntmps17
  go_wp2
  go_ret
  exact ⟨rfl, (Kp.refl w).alloc _ _⟩

set_option maxHeartbeats 400000 in
theorem rSign_17 (w : World) :
    Calls Tryd.prog 17 #[.int .i64 17] w fun e w' => e = .returned (.string (signText 17)) ∧ Kp w w' := by
  go_enter Tryd.func17, Tryd.ntmps17
  go_wp2
  go_ret
  exact ⟨rfl, (Kp.refl w).alloc _ _⟩

set_option maxHeartbeats 400000 in
theorem rSign_18 (w : World) :
    Calls Tryd.prog 17 #[.int .i64 18] w fun e w' => e = .returned (.string (signText 18)) ∧ Kp w w' := by
  go_enter Tryd.func17, Tryd.ntmps17
  go_wp2
  go_ret
  exact ⟨rfl, (Kp.refl w).alloc _ _⟩

set_option maxHeartbeats 400000 in
theorem rSign_19 (w : World) :
    Calls Tryd.prog 17 #[.int .i64 19] w fun e w' => e = .returned (.string (signText 19)) ∧ Kp w w' := by
  go_enter Tryd.func17, Tryd.ntmps17
  go_wp2
  go_ret
  exact ⟨rfl, (Kp.refl w).alloc _ _⟩

set_option maxHeartbeats 400000 in
theorem rSign_lo (op : Int) (w : World) (h : op < 1) :
    Calls Tryd.prog 17 #[.int .i64 op] w fun e w' => e = .returned (.string (bytesOf [])) ∧ Kp w w' := by
  go_enter Tryd.func17, Tryd.ntmps17
  go_wp2
  go_ret
  exact ⟨rfl, (Kp.refl w).alloc _ _⟩

set_option maxHeartbeats 400000 in
theorem rSign_hi (op : Int) (w : World) (h : 19 < op) :
    Calls Tryd.prog 17 #[.int .i64 op] w fun e w' => e = .returned (.string (bytesOf [])) ∧ Kp w w' := by
  go_enter Tryd.func17, Tryd.ntmps17
  go_wp2
  go_ret
  exact ⟨rfl, (Kp.refl w).alloc _ _⟩

theorem rSign_any (op : Int) (w : World) :
    Calls Tryd.prog 17 #[.int .i64 op] w fun e w' => e = .returned (.string (signText op)) ∧ Kp w w' := by
  by_cases h : op < 1 ∨ 19 < op
  · have e : signText op = bytesOf [] := by unfold signText; rw [if_pos h]
    rw [e]
    rcases h with h | h
    · exact rSign_lo op w h
    · exact rSign_hi op w h
  · have hop : op = 1 ∨ op = 2 ∨ op = 3 ∨ op = 4 ∨ op = 5 ∨ op = 6 ∨ op = 7 ∨ op = 8 ∨ op = 9 ∨ op = 10 ∨ op = 11 ∨ op = 12 ∨ op = 13 ∨ op = 14 ∨ op = 15 ∨ op = 16 ∨ op = 17 ∨ op = 18 ∨ op = 19 := by omega
    rcases hop with rfl | rfl | rfl | rfl | rfl | rfl | rfl | rfl | rfl | rfl | rfl | rfl | rfl | rfl | rfl | rfl | rfl | rfl | rfl
    · exact rSign_1 w
    · exact rSign_2 w
    · exact rSign_3 w
    · exact rSign_4 w
    · exact rSign_5 w
    · exact rSign_6 w
    · exact rSign_7 w
    · exact rSign_8 w
    · exact rSign_9 w
    · exact rSign_10 w
    · exact rSign_11 w
    · exact rSign_12 w
    · exact rSign_13 w
    · exact rSign_14 w
    · exact rSign_15 w
    · exact rSign_16 w
    · exact rSign_17 w
    · exact rSign_18 w
    · exact rSign_19 w

set_option maxHeartbeats 400000 in
theorem Name_in (op : Int) (w : World) (S : ByteArray) (h : 1 ≤ op) (h2 : op ≤ 3) (hc : w.cell? ⟨1, op.toNat, none⟩ = some (.string S)) :
    Calls Tryd.prog 10 #[.int .i64 op] w fun e w' => e = .returned (.string S) ∧ w = w' := by
  go_enter Tryd.func10, Tryd.ntmps10
  go_wp2_with (go_at_call 23; refine (isUn_yes _ _ h h2).mono ?_; rintro e w1 ⟨rfl, rfl⟩)
  go_ret
  exact ⟨rfl, rfl⟩
theorem Name_out (op : Int) (w : World) (h : op < 1 ∨ 3 < op) :
    Calls Tryd.prog 10 #[.int .i64 op] w fun e w' => e = .returned (.string (bytesOf [])) ∧ w = w' := by
  go_enter Tryd.func10, Tryd.ntmps10
  go_wp2_with (go_at_call 23; refine (isUn_no _ _ h).mono ?_; rintro e w1 ⟨rfl, rfl⟩)
  go_ret
  exact ⟨rfl, rfl⟩
theorem Name_any {w : World} (hs : NamesIn w) (op : Int) :
    Calls Tryd.prog 10 #[.int .i64 op] w fun e w' => e = .returned (.string (nameText op)) ∧ w = w' := by
  by_cases h : op < 1 ∨ 3 < op
  · have e : nameText op = bytesOf [] := by unfold nameText; rw [if_pos h]
    rw [e]; exact Name_out op w h
  · have e : nameText op = bytesOf (nameList.getD op.toNat []) := by unfold nameText; rw [if_neg h]
    rw [e]; exact Name_in op w _ (by omega) (by omega) (hs _ (by omega))

set_option maxHeartbeats 400000 in
theorem rName_1 (w : World) :
    Calls Tryd.prog 18 #[.int .i64 1] w fun e w' => e = .returned (.string (nameText 1)) ∧ Kp w w' := by
  go_enter Tryd.func18, Tryd.ntmps18
  go_wp2
  go_ret
  exact ⟨rfl, (Kp.refl w).alloc _ _⟩

set_option maxHeartbeats 400000 in
theorem rName_2 (w : World) :
    Calls Tryd.prog 18 #[.int .i64 2] w fun e w' => e = .returned (.string (nameText 2)) ∧ Kp w w' := by
  go_enter Tryd.func18, Tryd.ntmps18
  go_wp2
  go_ret
  exact ⟨rfl, (Kp.refl w).alloc _ _⟩

set_option maxHeartbeats 400000 in
theorem rName_3 (w : World) :
    Calls Tryd.prog 18 #[.int .i64 3] w fun e w' => e = .returned (.string (nameText 3)) ∧ Kp w w' := by
  go_enter Tryd.func18, Tryd.ntmps18
  go_wp2
  go_ret
  exact ⟨rfl, (Kp.refl w).alloc _ _⟩

set_option maxHeartbeats 400000 in
theorem rName_lo (op : Int) (w : World) (h : op < 1) :
    Calls Tryd.prog 18 #[.int .i64 op] w fun e w' => e = .returned (.string (bytesOf [])) ∧ Kp w w' := by
  go_enter Tryd.func18, Tryd.ntmps18
  go_wp2
  go_ret
  exact ⟨rfl, (Kp.refl w).alloc _ _⟩

set_option maxHeartbeats 400000 in
theorem rName_hi (op : Int) (w : World) (h : 3 < op) :
    Calls Tryd.prog 18 #[.int .i64 op] w fun e w' => e = .returned (.string (bytesOf [])) ∧ Kp w w' := by
  go_enter Tryd.func18, Tryd.ntmps18
  go_wp2
  go_ret
  exact ⟨rfl, (Kp.refl w).alloc _ _⟩

theorem rName_any (op : Int) (w : World) :
    Calls Tryd.prog 18 #[.int .i64 op] w fun e w' => e = .returned (.string (nameText op)) ∧ Kp w w' := by
  by_cases h : op < 1 ∨ 3 < op
  · have e : nameText op = bytesOf [] := by unfold nameText; rw [if_pos h]
    rw [e]
    rcases h with h | h
    · exact rName_lo op w h
    · exact rName_hi op w h
  · have hop : op = 1 ∨ op = 2 ∨ op = 3 := by omega
    rcases hop with rfl | rfl | rfl
    · exact rName_1 w
    · exact rName_2 w
    · exact rName_3 w

theorem Compares_any (op : Int) (w : World) : Calls Tryd.prog 11 #[.int .i64 op] w fun e w' => e = .returned (.bool (decide (14 ≤ op ∧ op ≤ 19))) ∧ w = w' := by
  by_cases h1 : 14 ≤ op
  · go_enter Tryd.func11, Tryd.ntmps11
    go_wp2
    go_ret
    exact ⟨ret_bool (by simp [h1]), rfl⟩
  · have h2 : decide (14 ≤ op ∧ op ≤ 19) = false := by simp; omega
    rw [h2]
    clear h2
    go_enter Tryd.func11, Tryd.ntmps11
    go_wp2
    go_ret
    exact ⟨rfl, rfl⟩

theorem rCompares_any (op : Int) (w : World) : Calls Tryd.prog 19 #[.int .i64 op] w fun e w' => e = .returned (.bool (decide (14 ≤ op ∧ op ≤ 19))) ∧ w = w' := by
  by_cases h1 : 14 ≤ op
  · go_enter Tryd.func19, Tryd.ntmps19
    go_wp2
    go_ret
    exact ⟨ret_bool (by simp [h1]), rfl⟩
  · have h2 : decide (14 ≤ op ∧ op ≤ 19) = false := by simp; omega
    rw [h2]
    clear h2
    go_enter Tryd.func19, Tryd.ntmps19
    go_wp2
    go_ret
    exact ⟨rfl, rfl⟩

end Wd
end Go.Proofs.YtcabnckinkdloaaDoor
