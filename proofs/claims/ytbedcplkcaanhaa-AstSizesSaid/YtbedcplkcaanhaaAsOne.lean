/-
  WALKS: package ast: names, types, operators of one expression. Own work.
-/
import Derived.Test.YtbedcplkcaanhaaAsMuch
import Derived.Test.YtbedcplkcaanhaaAsLex
namespace Go.Proofs.Ytbedcplkcaanhaa
namespace As
open Go.RowKit Go Rg Go.Shelf
set_option linter.unusedVariables false

theorem isName_any (s : List UInt8) (hl : s.length ≤ 1000000000000000000) (w : World) (b : Bool) (hb : decide (Lx.kindA s = 1) = b) :
    Calls Try.prog 79 #[.string (bytesOf s)] w fun e w' => e = .returned (.bool b) ∧ Below w.heap.size w w' := by
  have HB := Lib.hid hb
  have HC := Lib.hid (Lx.Kind_any s hl w _ rfl)
  clear hb
  generalize Lx.kindA s = k at *
  go_enter Try.func79, Try.ntmps79
  go_wp2_with (refine (show Calls _ _ #[.string (bytesOf s)] w _ from HC.out).mono ?_)
  rintro e w2 ⟨rfl, k2⟩
  have K2 := Lib.hid k2
  clear k2
  go_wp2
  go_ret
  exact ⟨Lx.ret_bool (by rw [← HB.out]; rfl), K2.out.below⟩
theorem isType_any (t : Int) (w : World) : Calls Try.prog 80 #[.int .i64 t] w fun e w' => e = .returned (.bool (decide (1 ≤ t ∧ t ≤ 4))) ∧ w' = w := by
  by_cases h1 : t = 1
  · subst h1
    go_enter Try.func80, Try.ntmps80
    go_wp2
    go_ret
    exact ⟨rfl, rfl⟩
  by_cases h2 : t = 2
  · subst h2
    go_enter Try.func80, Try.ntmps80
    go_wp2
    go_ret
    exact ⟨rfl, rfl⟩
  by_cases h3 : t = 3
  · subst h3
    go_enter Try.func80, Try.ntmps80
    go_wp2
    go_ret
    exact ⟨rfl, rfl⟩
  by_cases h4 : t = 4
  · subst h4
    go_enter Try.func80, Try.ntmps80
    go_wp2
    go_ret
    exact ⟨rfl, rfl⟩
  rw [show decide (1 ≤ t ∧ t ≤ 4) = false by simp; omega]
  go_enter Try.func80, Try.ntmps80
  go_wp2
  go_ret
  exact ⟨rfl, rfl⟩
/-- The table of the operators' names, whatever it holds. -/
def UnT (u : Nat → ByteArray) (w : World) : Prop := ∀ i, i < 4 → w.cell? ⟨0, i, none⟩ = some (.string (u i))
def unB (u : Nat → ByteArray) (op : Int) : Bool := if op = 1 then !(u 1).toList.isEmpty else if op = 2 then !(u 2).toList.isEmpty else if op = 3 then !(u 3).toList.isEmpty else false
theorem isUn_any (op : Int) {u : Nat → ByteArray} {w : World} (hu : UnT u w) : Calls Try.prog 114 #[.int .i64 op] w fun e w' => e = .returned (.bool (unB u op)) ∧ w' = w := by
  have u1 := hu 1 (by decide)
  have u2 := hu 2 (by decide)
  have u3 := hu 3 (by decide)
  unfold unB
  generalize u 1 = a1 at *
  generalize u 2 = a2 at *
  generalize u 3 = a3 at *
  clear hu
  by_cases h1 : op = 1
  · subst h1
    go_enter Try.func114, Try.ntmps114
    go_wp2
    go_ret
    exact ⟨rfl, rfl⟩
  by_cases h2 : op = 2
  · subst h2
    go_enter Try.func114, Try.ntmps114
    go_wp2
    go_ret
    exact ⟨rfl, rfl⟩
  by_cases h3 : op = 3
  · subst h3
    go_enter Try.func114, Try.ntmps114
    go_wp2
    go_ret
    exact ⟨rfl, rfl⟩
  rw [if_neg h1, if_neg h2, if_neg h3]
  by_cases h0 : (1 : Int) ≤ op
  · have h4 : ¬ op < 4 := by omega
    clear h1 h2 h3
    go_enter Try.func114, Try.ntmps114
    go_wp2
    go_ret
    exact ⟨rfl, rfl⟩
  · clear h1 h2 h3
    go_enter Try.func114, Try.ntmps114
    go_wp2
    go_ret
    exact ⟨rfl, rfl⟩
def binL : List Int := [1, 2, 3, 4, 5, 8, 9, 10, 11, 12, 14, 15, 16, 17, 20, 21]
theorem isBin_any (op : Int) (w : World) : Calls Try.prog 115 #[.int .i64 op] w fun e w' => e = .returned (.bool (binL.contains op)) ∧ w' = w := by
  by_cases h0 : op = 1
  · subst h0
    go_enter Try.func115, Try.ntmps115
    go_wp2
    go_ret
    exact ⟨rfl, rfl⟩
  by_cases h1 : op = 2
  · subst h1
    go_enter Try.func115, Try.ntmps115
    go_wp2
    go_ret
    exact ⟨rfl, rfl⟩
  by_cases h2 : op = 3
  · subst h2
    go_enter Try.func115, Try.ntmps115
    go_wp2
    go_ret
    exact ⟨rfl, rfl⟩
  by_cases h3 : op = 4
  · subst h3
    go_enter Try.func115, Try.ntmps115
    go_wp2
    go_ret
    exact ⟨rfl, rfl⟩
  by_cases h4 : op = 5
  · subst h4
    go_enter Try.func115, Try.ntmps115
    go_wp2
    go_ret
    exact ⟨rfl, rfl⟩
  by_cases h5 : op = 8
  · subst h5
    go_enter Try.func115, Try.ntmps115
    go_wp2
    go_ret
    exact ⟨rfl, rfl⟩
  by_cases h6 : op = 9
  · subst h6
    go_enter Try.func115, Try.ntmps115
    go_wp2
    go_ret
    exact ⟨rfl, rfl⟩
  by_cases h7 : op = 10
  · subst h7
    go_enter Try.func115, Try.ntmps115
    go_wp2
    go_ret
    exact ⟨rfl, rfl⟩
  by_cases h8 : op = 11
  · subst h8
    go_enter Try.func115, Try.ntmps115
    go_wp2
    go_ret
    exact ⟨rfl, rfl⟩
  by_cases h9 : op = 12
  · subst h9
    go_enter Try.func115, Try.ntmps115
    go_wp2
    go_ret
    exact ⟨rfl, rfl⟩
  by_cases h10 : op = 14
  · subst h10
    go_enter Try.func115, Try.ntmps115
    go_wp2
    go_ret
    exact ⟨rfl, rfl⟩
  by_cases h11 : op = 15
  · subst h11
    go_enter Try.func115, Try.ntmps115
    go_wp2
    go_ret
    exact ⟨rfl, rfl⟩
  by_cases h12 : op = 16
  · subst h12
    go_enter Try.func115, Try.ntmps115
    go_wp2
    go_ret
    exact ⟨rfl, rfl⟩
  by_cases h13 : op = 17
  · subst h13
    go_enter Try.func115, Try.ntmps115
    go_wp2
    go_ret
    exact ⟨rfl, rfl⟩
  by_cases h14 : op = 20
  · subst h14
    go_enter Try.func115, Try.ntmps115
    go_wp2
    go_ret
    exact ⟨rfl, rfl⟩
  by_cases h15 : op = 21
  · subst h15
    go_enter Try.func115, Try.ntmps115
    go_wp2
    go_ret
    exact ⟨rfl, rfl⟩
  rw [show binL.contains op = false by unfold binL; simp [h0, h1, h2, h3, h4, h5, h6, h7, h8, h9, h10, h11, h12, h13, h14, h15]]
  go_enter Try.func115, Try.ntmps115
  go_wp2
  go_ret
  exact ⟨rfl, rfl⟩
end As
end Go.Proofs.Ytbedcplkcaanhaa
