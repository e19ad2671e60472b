/-
  What every row of stage 6 has of the world: the table of the operators' names holds some texts. No walk. Own work.
-/
import Derived.Test.YtbedcplkcaanhaaRows
import Derived.Test.YtbedcplkcaanhaaAsOne
import Derived.WalkKit
import Derived.ProofKit
import Derived.OpenShut
import Derived.HandedShaped
namespace Go.Proofs.Ytbedcplkcaanhaa
namespace AsP
open Go.ChangeShapes Go.WideShapes Go.ChangeAt Go.RowKit
set_option linter.unusedVariables false

theorem own : ownKnob Try.prog.godebug = none := by kernel_rfl
theorem texts_of_shaped {P : Program} {w : World} {g : Nat} {t st : TypeId} {zero : Array Value} {n : Nat} (h : w.ShapedOpen P) (hg : g < P.globals.size)
    (h0 : ((begin P (fun _ _ => 0) default).world.heap[g]?).bind Obj.row? = some (zero, t)) (hz : zero.size = n) (hb : P.buildable t = true) (hc : P.cellTypes P.depth t = some (List.replicate n st)) (hu : P.underlying st = some .string) :
    ∀ i, i < n → ∃ s, w.cell? ⟨g, i, none⟩ = some (.string s) := by
  obtain ⟨cs, hh, hs, hr⟩ := h.1 g zero t hg h0
  obtain ⟨ts, hts, _, hall⟩ := hr hb
  rw [hc] at hts
  cases hts
  intro i hi
  have h1 : i < cs.size := by omega
  obtain ⟨u, hu', hok⟩ := hall i cs[i] (by simp [h1])
  have : u = st := by
    have := List.mem_of_getElem? hu'
    exact (List.mem_replicate.1 this).2
  subst this
  have hcell : w.cell? ⟨g, i, none⟩ = some cs[i] := by simp [World.cell?, hh, h1]
  rw [hcell]
  unfold Cell.ok at hok
  rw [hu] at hok
  cases hv : cs[i] <;> rw [hv] at hok <;> simp at hok
  case string s => exact ⟨s, rfl⟩
/-- The table of the operators' names holds texts. -/
theorem un_of {W : World} (h : W.ShapedOpen Try.prog) : ∃ u, As.UnT u W := by
  have each := texts_of_shaped (P := Try.prog) (g := 0) (t := 167) (st := 9) (n := 4) (zero := #[.string ⟨#[]⟩, .string ⟨#[]⟩, .string ⟨#[]⟩, .string ⟨#[]⟩]) h (of_decide_eq_true (by kernel_rfl)) (by kernel_rfl) rfl (by kernel_rfl) (by kernel_rfl) Try.underlying9
  exact ⟨fun i => if hi : i < 4 then (each i hi).choose else ⟨#[]⟩, fun i hi => by simp only [hi, dif_pos]; exact (each i hi).choose_spec⟩

end AsP
end Go.Proofs.Ytbedcplkcaanhaa
