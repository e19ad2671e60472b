/-
  WALKS: package word: symbols, names, cutting; the document's own symbols and names; what a world keeps. Own work.
-/
import Derived.Test.YtaeblnlbelebkaaGreatDoorRows
import Derived.Test.YtaeblnlbelebkaaGreatDoorCoSem
import Derived.Test.YtaeblnlbelebkaaGreatDoorShelf
import Derived.WalkSpells
import Derived.WalkLawsBesides
import Derived.Deep.QuietTactic
import Derived.BigQuiet
namespace Go.Proofs.YtaeblnlbelebkaaGreatDoor
namespace Co
open Go.RowKit Go
set_option linter.unusedVariables false

/-- Nothing that was there has turned. -/
structure Kp (w w' : World) : Prop where
  below : Below w.heap.size w w'
theorem Kp.refl (w : World) : Kp w w := ⟨Below.refl _ _⟩
theorem Kp.trans {a b c : World} (h : Kp a b) (k : Kp b c) : Kp a c := ⟨h.below.trans (k.below.mono h.below.size)⟩
theorem Kp.alloc {a w : World} (h : Kp a w) (c : Array Value) (t : TypeId) : Kp a (w.alloc (.cells c t)) := ⟨h.below.alloc h.below.size _⟩
theorem Kp.setCell {a w : World} (h : Kp a w) {p : Addr} (hp : a.heap.size ≤ p.block) (u : Value) : Kp a (w.setCell p u) := ⟨h.below.setCell hp u⟩
theorem Kp.drew {a w : World} (h : Kp a w) : Kp a w.drew := ⟨h.below.drew⟩
theorem Kp.drewN {a w : World} (h : Kp a w) (n : Nat) : Kp a (w.drewN n) := ⟨⟨h.below.os, h.below.tape, h.below.output, h.below.size, h.below.block⟩⟩
theorem Kp.size {w w' : World} (h : Kp w w') : w.heap.size ≤ w'.heap.size := h.below.size
theorem Kp.cell {w w' : World} (h : Kp w w') {p : Addr} (hp : p.block < w.heap.size) : w'.cell? p = w.cell? p := h.below.cell hp
theorem Kp.fro {w w' : World} (h : Kp w w') {p : Addr} (hp : p.block < w.heap.size) : w'.frozen? p = w.frozen? p := h.below.frozen hp
theorem Kp.cells {w w' : World} (h : Kp w w') : ∀ b o, b < w.heap.size → w'.cell? ⟨b, o, none⟩ = w.cell? ⟨b, o, none⟩ := fun b o hb => h.below.cell (p := ⟨b, o, none⟩) hb
theorem Kp.fros {w w' : World} (h : Kp w w') : ∀ b o, b < w.heap.size → w'.frozen? ⟨b, o, none⟩ = w.frozen? ⟨b, o, none⟩ := fun b o hb => h.below.frozen (p := ⟨b, o, none⟩) hb

theorem ret_int {k : IntKind} {a b : Int} (h : a = b) : Ending.returned (.int k a) = .returned (.int k b) := by rw [h]
theorem ret_bool {a b : Bool} (h : a = b) : Ending.returned (.bool a) = .returned (.bool b) := by rw [h]
theorem ret_str {a b : ByteArray} (h : a = b) : Ending.returned (.string a) = .returned (.string b) := by rw [h]
theorem ret2_int {k l : IntKind} {a b c d : Int} (h : a = b) (g : c = d) : Ending.returned (.tuple #[.int k a, .int l c]) = .returned (.tuple #[.int k b, .int l d]) := by rw [h, g]
theorem block_of_cell {w : World} {a : Addr} {v : Value} (h : w.cell? a = some v) : a.block < w.heap.size := World.block_lt_of_cell? w _ h

theorem isBin_yes (op : Int) (w : World) (h : 1 ≤ op) (h2 : op ≤ 19) : Calls Tryz.prog 121 #[.int .i64 op] w fun e w' => e = .returned (.bool true) ∧ w = w' := by
  go_enter Tryz.func121, Tryz.ntmps121
  go_wp2
  go_ret
  exact ⟨ret_bool (by simp <;> omega), rfl⟩
theorem isBin_no (op : Int) (w : World) (h : op < 1 ∨ 19 < op) : Calls Tryz.prog 121 #[.int .i64 op] w fun e w' => e = .returned (.bool false) ∧ w = w' := by
  rcases h with h | h
  · go_enter Tryz.func121, Tryz.ntmps121
    go_wp2
    go_ret
    exact ⟨rfl, rfl⟩
  · have h1 : 1 ≤ op := by omega
    go_enter Tryz.func121, Tryz.ntmps121
    go_wp2
    go_ret
    exact ⟨ret_bool (by simp <;> omega), rfl⟩
theorem isUn_yes (op : Int) (w : World) (h : 1 ≤ op) (h2 : op ≤ 3) : Calls Tryz.prog 122 #[.int .i64 op] w fun e w' => e = .returned (.bool true) ∧ w = w' := by
  go_enter Tryz.func122, Tryz.ntmps122
  go_wp2
  go_ret
  exact ⟨ret_bool (by simp <;> omega), rfl⟩
theorem isUn_no (op : Int) (w : World) (h : op < 1 ∨ 3 < op) : Calls Tryz.prog 122 #[.int .i64 op] w fun e w' => e = .returned (.bool false) ∧ w = w' := by
  rcases h with h | h
  · go_enter Tryz.func122, Tryz.ntmps122
    go_wp2
    go_ret
    exact ⟨rfl, rfl⟩
  · have h1 : 1 ≤ op := by omega
    go_enter Tryz.func122, Tryz.ntmps122
    go_wp2
    go_ret
    exact ⟨ret_bool (by simp <;> omega), rfl⟩

/-- The width is one of three. -/
theorem cut_yes (n : Int) (w : World) (h : n = 8 ∨ n = 16 ∨ n = 32) :
    Calls Tryz.prog 120 #[.int .u32 0, .int .i64 n] w fun e w' => e = .returned (.tuple #[.int .u32 0, .int .i64 0]) ∧ w = w' := by
  rcases h with rfl | rfl | rfl
  all_goals
    go_enter Tryz.func120, Tryz.ntmps120
    go_wp2
    go_ret2
    exact ⟨by first | rfl | exact ret2_int (by decide) rfl, rfl⟩
theorem cut_no (n : Int) (w : World) (h1 : (n == 8) = false) (h2 : (n == 16) = false) (h3 : (n == 32) = false) :
    Calls Tryz.prog 120 #[.int .u32 0, .int .i64 n] w fun e w' => e = .returned (.tuple #[.int .u32 0, .int .i64 2]) ∧ w = w' := by
  go_enter Tryz.func120, Tryz.ntmps120
  go_wp2
  go_ret2
  exact ⟨rfl, rfl⟩

/-- The tables of package word, in memory. -/
def SignsIn (w : World) : Prop := ∀ i, i < 20 → w.cell? ⟨1, i, none⟩ = some (.string (bytesOf (signList.getD i [])))
def NamesIn (w : World) : Prop := ∀ i, i < 4 → w.cell? ⟨2, i, none⟩ = some (.string (bytesOf (nameList.getD i [])))
theorem SignsIn.kept {w w' : World} (h : SignsIn w) (k : Kp w w') : SignsIn w' := fun i hi => (k.cell (block_of_cell (h i hi))).trans (h i hi)
theorem NamesIn.kept {w w' : World} (h : NamesIn w) (k : Kp w w') : NamesIn w' := fun i hi => (k.cell (block_of_cell (h i hi))).trans (h i hi)

theorem Sign_in (op : Int) (w : World) (S : ByteArray) (h : 1 ≤ op) (h2 : op ≤ 19) (hc : w.cell? ⟨1, op.toNat, none⟩ = some (.string S)) :
    Calls Tryz.prog 111 #[.int .i64 op] w fun e w' => e = .returned (.string S) ∧ w = w' := by
  go_enter Tryz.func111, Tryz.ntmps111
  go_wp2_with (go_at_call 121; refine (isBin_yes _ _ h h2).mono ?_; rintro e w1 ⟨rfl, rfl⟩)
  go_ret
  exact ⟨rfl, rfl⟩
theorem Sign_out (op : Int) (w : World) (h : op < 1 ∨ 19 < op) :
    Calls Tryz.prog 111 #[.int .i64 op] w fun e w' => e = .returned (.string (bytesOf [])) ∧ w = w' := by
  go_enter Tryz.func111, Tryz.ntmps111
  go_wp2_with (go_at_call 121; refine (isBin_no _ _ h).mono ?_; rintro e w1 ⟨rfl, rfl⟩)
  go_ret
  exact ⟨rfl, rfl⟩
theorem Sign_any {w : World} (hs : SignsIn w) (op : Int) :
    Calls Tryz.prog 111 #[.int .i64 op] w fun e w' => e = .returned (.string (bytesOf (signL op))) ∧ w = w' := by
  by_cases h : op < 1 ∨ 19 < op
  · have e : signL op = [] := by unfold signL; rw [if_pos h]
    rw [e]; exact Sign_out op w h
  · have e : signL op = signList.getD op.toNat [] := by unfold signL; rw [if_neg h]
    rw [e]; exact Sign_in op w _ (by omega) (by omega) (hs _ (by omega))

theorem Name_in (op : Int) (w : World) (S : ByteArray) (h : 1 ≤ op) (h2 : op ≤ 3) (hc : w.cell? ⟨2, op.toNat, none⟩ = some (.string S)) :
    Calls Tryz.prog 112 #[.int .i64 op] w fun e w' => e = .returned (.string S) ∧ w = w' := by
  go_enter Tryz.func112, Tryz.ntmps112
  go_wp2_with (go_at_call 122; refine (isUn_yes _ _ h h2).mono ?_; rintro e w1 ⟨rfl, rfl⟩)
  go_ret
  exact ⟨rfl, rfl⟩
theorem Name_out (op : Int) (w : World) (h : op < 1 ∨ 3 < op) :
    Calls Tryz.prog 112 #[.int .i64 op] w fun e w' => e = .returned (.string (bytesOf [])) ∧ w = w' := by
  go_enter Tryz.func112, Tryz.ntmps112
  go_wp2_with (go_at_call 122; refine (isUn_no _ _ h).mono ?_; rintro e w1 ⟨rfl, rfl⟩)
  go_ret
  exact ⟨rfl, rfl⟩
theorem Name_any {w : World} (hs : NamesIn w) (op : Int) :
    Calls Tryz.prog 112 #[.int .i64 op] w fun e w' => e = .returned (.string (bytesOf (nameL op))) ∧ w = w' := by
  by_cases h : op < 1 ∨ 3 < op
  · have e : nameL op = [] := by unfold nameL; rw [if_pos h]
    rw [e]; exact Name_out op w h
  · have e : nameL op = nameList.getD op.toNat [] := by unfold nameL; rw [if_neg h]
    rw [e]; exact Name_in op w _ (by omega) (by omega) (hs _ (by omega))
end Co
end Go.Proofs.YtaeblnlbelebkaaGreatDoor
