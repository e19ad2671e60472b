/-
  From a row's data to the walks' facts: the signs and the two errors that the row lists; a witness. No walk. Own work.
-/
import Derived.Test.YtlgkcjhoaecekaaDoorLxWord
import Derived.Lib.LaidTab
import Derived.Lib.LaidU8
import Derived.Lib.SmallJoins
import Derived.ChangeSlices
import Derived.Stop.LaidErr
import Derived.Stop.Joined
import Derived.MakeChecks
import Derived.OpenShut
import Derived.LaidMore
import Derived.LaidOnce
namespace Go.Proofs.YtlgkcjhoaecekaaDoor
namespace Lx
open Go.RowKit Go Go.ChangeShapes Go.WideShapes Go.Deep
set_option maxRecDepth 100000

def allLaid : List (String × DataW Unit) := [("math/bits.deBruijn32tab", Rows.laid_math_bits_deBruijn32tab), ("math/bits.deBruijn64tab", Rows.laid_math_bits_deBruijn64tab), ("internal/strconv.uint64pow10", Rows.laid_internal_strconv_uint64pow10), ("strconv.ErrRange", Rows.laid_strconv_ErrRange), ("strconv.ErrSyntax", Rows.laid_strconv_ErrSyntax), ("lamplighter/lex.signs", Rows.laid_lamplighter_lex_signs)]
theorem cellsString : Tryd.prog.cellsOf 9 = 1 := by kernel_rfl
theorem ownK : ownKnob Tryd.prog.godebug = none := by kernel_rfl
theorem laidOutK : laidOutB Tryd.prog = true := by kernel_rfl
section
variable {H : Type} {enc : TypeId × Value → H} {W : World} {base : Nat} {sp : Nat → Bool} {held : Bool}

/-- An array of strings that reads as a list of texts holds these texts, cell for cell. -/
theorem cells_of_texts {P : Program} {fuel : Nat} {t e : TypeId} {n : Nat} {cs : List Value} {bs : List (List UInt8)} {p : List MemPlace}
    (ht : P.underlying t = some (.array n e)) (he : P.underlying e = some .string) (hce : P.cellsOf e = 1) (hct : P.cellsOf t = n)
    (h : DataW.trod enc P W base sp held fuel t cs = some (.agg (bs.map fun b => .lit (.string b)), p)) : cs = bs.map fun b => Value.string (bytesOf b) := by
  cases fuel with
  | zero => simp [DataW.trod] at h
  | succ fuel =>
    simp only [DataW.trod, ht, hce, hct, Nat.mul_one] at h
    split at h
    · obtain ⟨xs, hm, hx⟩ := Option.map_eq_some_iff.1 h
      have hxs : xs.map (·.1) = bs.map fun b => (DataW.lit (.string b) : DataW H) := by
        have := congrArg Prod.fst hx
        simpa using this
      have hxl : xs.length = n := by simpa using Lib.mapM_length hm
      have hbl : bs.length = n := by
        have := congrArg List.length hxs
        simp at this
        omega
      apply List.ext_getElem?
      intro i
      by_cases hi : i < n
      · obtain ⟨b, hb, hf⟩ := Lib.mapM_at hm i i (by simp [hi])
        obtain ⟨s, hc, rfl, _⟩ := DataW.trod_string he hf
        have h1 : cs[i]? = some (.string s) := by
          have := congrArg (·[0]?) hc
          simpa [List.getElem?_take, List.getElem?_drop] using this
        have h2 : (xs.map (·.1))[i]? = some (DataW.lit (.string s.data.toList) : DataW H) := by simp [hb]
        rw [hxs] at h2
        simp only [List.getElem?_map, Option.map_eq_some_iff, DataW.lit.injEq, Lit.string.injEq] at h2
        obtain ⟨b', hb', he'⟩ := h2
        have e3 : bytesOf b' = s := by
          subst he'
          rfl
        simp [h1, hb', e3]
      · rw [List.getElem?_eq_none (by omega), List.getElem?_eq_none (by simp; omega)]
    · cases h
theorem texts_in (bs : List (List UInt8)) {P : Program} {name : String} {g : Nat} {t e : TypeId} {n : Nat}
    (hg : P.globalNamed name = some g) (hty : (P.globals[g]?).map (·.type) = some t) (ht : P.underlying t = some (.array n e)) (he : P.underlying e = some .string) (hce : P.cellsOf e = 1) (hct : P.cellsOf t = n)
    (h : Lib.VarReads P W name (.agg (bs.map fun b => .lit (.string b)))) : ∀ i, i < bs.length → W.cell? ⟨g, i, none⟩ = some (.string (bytesOf (bs.getD i []))) := by
  obtain ⟨g', t', cs, fuel, p, hg', ht', hvar, hd⟩ := h
  obtain rfl := Option.some.inj (hg.symm.trans hg')
  obtain rfl := Option.some.inj (hty.symm.trans ht')
  intro i hi
  have hv : W.var? P name = some (bs.map fun b => Value.string (bytesOf b)).toArray := by rw [hvar, ← cells_of_texts ht he hce hct hd]
  have := World.var?_cell hg hv i
  simpa [List.getD, hi] using this
end
theorem star : "*" ++ "errors.errorString" = "*errors.errorString" := by decide
theorem row_err (u : TypeId) (h : Tryd.prog.typeName? 3 u = some "*errors.errorString") : u = 102 :=
  typeName_ptr_named (nm := "errors.errorString") (by rw [star]; kernel_rfl) (by kernel_rfl) (by decide) u (by rw [star]; exact h)
theorem cellsErr : Tryd.prog.cellsOf 104 = 1 := by kernel_rfl
theorem env_in {W : World} (h0 : laidMetH Tryd.prog allLaid W) : Env W := by
  have h : laidMet Tryd.prog allLaid W := by rw [MakeChecks.laidMetH_plain _ _ _ (by kernel_rfl)] at h0; exact h0
  have r1 := Lib.laidMet.reads h (show ("lamplighter/lex.signs", Rows.laid_lamplighter_lex_signs) ∈ allLaid by simp [allLaid])
  have t5 := h.tail.tail.tail
  have t6 := t5.tail
  obtain ⟨a5, _, v5, _⟩ := laid_sentinel (g := 3) (ti := 70) t5 (by kernel_rfl) (by kernel_rfl) Tryd.underlying70 row_err Tryd.underlying102 Tryd.underlying104 rfl rfl Tryd.underlying9 cellsErr cellsString
  obtain ⟨a6, _, v6, _⟩ := laid_sentinel (g := 2) (ti := 70) t6 (by kernel_rfl) (by kernel_rfl) Tryd.underlying70 row_err Tryd.underlying102 Tryd.underlying104 rfl rfl Tryd.underlying9 cellsErr cellsString
  exact {
    sg := texts_in sgnL (g := 1) (t := 85) (by kernel_rfl) (by kernel_rfl) Tryd.underlying85 Tryd.underlying9 cellsString (by kernel_rfl) r1
    es := ⟨_, _, by simpa using World.var?_cell (show Tryd.prog.globalNamed "strconv.ErrSyntax" = some 2 by kernel_rfl) v6 0⟩
    er := ⟨_, _, by simpa using World.var?_cell (show Tryd.prog.globalNamed "strconv.ErrRange" = some 3 by kernel_rfl) v5 0⟩ }

/- A world for the witness: the one that the initialisers leave. -/
theorem door_leaves (os : Os) : doorLeaves Tryd.prog 130 8 257 allLaid os (fun _ _ => 0) = some (allLaid.filter fun x => x.2.handleName?.isNone, (funcsListed allLaid).map (·.2.funcsOut)) := by kernel_rfl
theorem door_met (os : Os) : laidMet Tryd.prog allLaid (varsWorld Tryd.prog 130 (varsId Tryd.prog) os (fun _ _ => 0)).memory := by
  have d := door_leaves os
  unfold doorLeaves at d
  split at d
  · rename_i v w hr
    have hw : varsWorld Tryd.prog 130 (varsId Tryd.prog) os (fun _ _ => 0) = w := by unfold varsWorld; rw [hr]
    rw [hw]
    simp only [Option.bind_eq_some_iff] at d
    obtain ⟨x, hx, d⟩ := d
    split at d
    · rename_i hb
      simp only [Bool.and_eq_true] at hb
      simp only [Option.map_eq_some_iff, Prod.mk.injEq] at d
      obtain ⟨y, hy, e1, e2⟩ := d
      have ef : (allLaid.filter fun x => x.2.handleName?.isNone) = allLaid := by kernel_rfl
      rw [ef] at hx e1
      exact laidMet_of_run (ps := x.2) 8 (by rw [hx, ← e1]) (decide_eq_true (nodupBits_sound hb.1.1).1) hb.1.2
    · cases d
  · cases d
theorem wit_met (os : Os) (args : Array Value) : laidMet Tryd.prog allLaid ((World.doorLaid Tryd.prog 130 os).forCall (fun _ _ => 0) ⟨#[], args, []⟩).memory :=
  (door_met os).of_heap (by simp [World.doorLaid, World.forCall, World.memory, Input.heap])
end Lx
end Go.Proofs.YtlgkcjhoaecekaaDoor
