/-
  NARROWER THAN 'FOR EVERY INPUT', by the rows' own cells (each row's printed sentence says how): AstParts: loops · AstSames: loops · AstSizes: loops · AstNamed: loops.
  DERIVED. THE GIVEN ROWS OF THIS SEAT. 5 by the template 'for every input the law returns true; each argument reads behind the call as it read before'; 0 by the template 'total and deterministic' (their statements: YtbedcplkcaanhaaTotals.lean).
  GIVEN WITH THE SEED: the statements are not yours to turn. If you find one false, say at which input.
  Laid BY PROGRAM, IN A SANDBOX (cutbox-rows.mjs): the forced cells as the released guide's own fill.sh prints them over the translation 8a5612ebfb9e37c6… (all of the seat's roots in one cut). By AI agents, Wed Nov 11 2026. No macro, syntax, notation, axiom, sorry.
-/
import Derived.Test.YtbedcplkcaanhaaChecked
import GoSem.Claim
import GoSem.ClaimJoined
import GoSem.ClaimMapViews
import Derived.JoinedTies
import Derived.KernelRfl
namespace Go.Proofs.Ytbedcplkcaanhaa
/- THE CELL 'sum', in the pinned program and in every row, IS THE sha256 OF THE DUMP (.gsa) THAT YtbedcplkcaanhaaProg.lean LOADS. Nothing in Lean hashes anything: it is a label: what it is worth is what the hold of that sum in a sandbox is worth. -/
noncomputable def Try.pinned : Pinned := { name := "ytbedcplkcaanhaa", sum := "8a5612ebfb9e37c6f1c7fd50b3ae2539405bd7cb83c55f0b3d1dd10bc690a444", checked := Try.checked }
namespace Rows
def none {H : Type} : Left H := { results := [], args := [] }

/-- 'lamplighterlaw06.AstNames': WHATEVER THE INPUT: true; the input reads as it did. -/
def astNamesSpec : ChangeSpec := { name := "astNames", fn := fun _ => fun
  | [] => { results := [.lit (.bool true)], args := [] }
  | _ => none }
def astNamesRow : OpenClaim := { program := "ytbedcplkcaanhaa", sum := "8a5612ebfb9e37c6f1c7fd50b3ae2539405bd7cb83c55f0b3d1dd10bc690a444", func := "lamplighter/lamplighterlaw06.AstNames", spec := "astNames", unfollowed := true, recurses := true, apart := false }
def AstNamesSaid : Prop := astNamesRow.holds Try.pinned (OpenSpec.ofChange astNamesSpec)

/-- ITS FALSE NEIGHBOUR: 'it returns false'. Refute it at one input. -/
def astNamesWrong : ChangeSpec := { name := "astNames", fn := fun _ => fun
  | [] => { results := [.lit (.bool false)], args := [] }
  | _ => none }
def AstNamesWrongFalsely : Prop := astNamesRow.holds Try.pinned (OpenSpec.ofChange astNamesWrong)

/-- 'lamplighterlaw06.AstParts': WHATEVER THE INPUT: true; the input reads as it did. -/
def astPartsSpec : ChangeSpec := { name := "astParts", fn := fun _ => fun
  | [d1, d2] => { results := [.lit (.bool true)], args := [d1, d2] }
  | _ => none }
def astPartsRow : OpenClaim := { program := "ytbedcplkcaanhaa", sum := "8a5612ebfb9e37c6f1c7fd50b3ae2539405bd7cb83c55f0b3d1dd10bc690a444", func := "lamplighter/lamplighterlaw06.AstParts", spec := "astParts", unfollowed := true, recurses := true, loops := true, apart := false }
def AstPartsSaid : Prop := astPartsRow.holds Try.pinned (OpenSpec.ofChange astPartsSpec)

/-- ITS FALSE NEIGHBOUR: 'it returns false'. Refute it at one input. -/
def astPartsWrong : ChangeSpec := { name := "astParts", fn := fun _ => fun
  | [d1, d2] => { results := [.lit (.bool false)], args := [d1, d2] }
  | _ => none }
def AstPartsWrongFalsely : Prop := astPartsRow.holds Try.pinned (OpenSpec.ofChange astPartsWrong)

/-- 'lamplighterlaw06.AstSames': WHATEVER THE INPUT: true; the input reads as it did. -/
def astSamesSpec : ChangeSpec := { name := "astSames", fn := fun _ => fun
  | [d1, d2, d3, d4] => { results := [.lit (.bool true)], args := [d1, d2, d3, d4] }
  | _ => none }
def astSamesRow : OpenClaim := { program := "ytbedcplkcaanhaa", sum := "8a5612ebfb9e37c6f1c7fd50b3ae2539405bd7cb83c55f0b3d1dd10bc690a444", func := "lamplighter/lamplighterlaw06.AstSames", spec := "astSames", unfollowed := true, recurses := true, loops := true, apart := false }
def AstSamesSaid : Prop := astSamesRow.holds Try.pinned (OpenSpec.ofChange astSamesSpec)

/-- ITS FALSE NEIGHBOUR: 'it returns false'. Refute it at one input. -/
def astSamesWrong : ChangeSpec := { name := "astSames", fn := fun _ => fun
  | [d1, d2, d3, d4] => { results := [.lit (.bool false)], args := [d1, d2, d3, d4] }
  | _ => none }
def AstSamesWrongFalsely : Prop := astSamesRow.holds Try.pinned (OpenSpec.ofChange astSamesWrong)

/-- 'lamplighterlaw06.AstSizes': WHATEVER THE INPUT: true; the input reads as it did. -/
def astSizesSpec : ChangeSpec := { name := "astSizes", fn := fun _ => fun
  | [d1, d2, d3] => { results := [.lit (.bool true)], args := [d1, d2, d3] }
  | _ => none }
def astSizesRow : OpenClaim := { program := "ytbedcplkcaanhaa", sum := "8a5612ebfb9e37c6f1c7fd50b3ae2539405bd7cb83c55f0b3d1dd10bc690a444", func := "lamplighter/lamplighterlaw06.AstSizes", spec := "astSizes", unfollowed := true, recurses := true, loops := true, apart := false }
def AstSizesSaid : Prop := astSizesRow.holds Try.pinned (OpenSpec.ofChange astSizesSpec)

/-- ITS FALSE NEIGHBOUR: 'it returns false'. Refute it at one input. -/
def astSizesWrong : ChangeSpec := { name := "astSizes", fn := fun _ => fun
  | [d1, d2, d3] => { results := [.lit (.bool false)], args := [d1, d2, d3] }
  | _ => none }
def AstSizesWrongFalsely : Prop := astSizesRow.holds Try.pinned (OpenSpec.ofChange astSizesWrong)

/-- 'lamplighterlaw06.AstNamed': WHATEVER THE INPUT: true; the input reads as it did. -/
def astNamedSpec : ChangeSpec := { name := "astNamed", fn := fun _ => fun
  | [d1, d2, d3] => { results := [.lit (.bool true)], args := [d1, d2, d3] }
  | _ => none }
def astNamedRow : OpenClaim := { program := "ytbedcplkcaanhaa", sum := "8a5612ebfb9e37c6f1c7fd50b3ae2539405bd7cb83c55f0b3d1dd10bc690a444", func := "lamplighter/lamplighterlaw06.AstNamed", spec := "astNamed", unfollowed := true, recurses := true, loops := true, apart := false }
def AstNamedSaid : Prop := astNamedRow.holds Try.pinned (OpenSpec.ofChange astNamedSpec)

/-- ITS FALSE NEIGHBOUR: 'it returns false'. Refute it at one input. -/
def astNamedWrong : ChangeSpec := { name := "astNamed", fn := fun _ => fun
  | [d1, d2, d3] => { results := [.lit (.bool false)], args := [d1, d2, d3] }
  | _ => none }
def AstNamedWrongFalsely : Prop := astNamedRow.holds Try.pinned (OpenSpec.ofChange astNamedWrong)

/- THE SECOND FORM. 'bulk': how many values and letters a reading holds, each counted each time it is reached (what is shared counts as often as it is met; a slice's spare places count too). A statement '..UptoSaid' is the law's where the arguments, and the package variables that the reading takes, are together of bulk at most 1048576: NARROWER than '..Said'. Prove '..Said' where nothing that the law and all that it calls make is longer than what came in: it says more and counts as full. Else prove '..UptoSaid'. A law counts once. -/
mutual
def uptoBulk {H : Type} : DataW H → Nat
  | .lit (.string bytes) => bytes.length + 1
  | .lit _ => 1
  | .nil => 1
  | .ptr d => uptoBulk d + 1
  | .slice elems spare => uptoBulkAll elems + uptoBulkAll spare + 1
  | .agg parts => uptoBulkAll parts + 1
  | .iface _ d => uptoBulk d + 1
  | .map entries => uptoBulkEntries entries + 1
  | .held _ => 1
def uptoBulkAll {H : Type} : List (DataW H) → Nat
  | [] => 0
  | d :: r => uptoBulk d + uptoBulkAll r
def uptoBulkEntries {H : Type} : List (Lit × DataW H) → Nat
  | [] => 0
  | x :: r => uptoBulkEntry x + uptoBulkEntries r
def uptoBulkEntry {H : Type} : Lit × DataW H → Nat
  | (.string bytes, d) => bytes.length + uptoBulk d + 1
  | (_, d) => uptoBulk d + 1
 end
def uptoSmall : (H : Type) → List (DataW H) → Bool := fun _ ds => decide (uptoBulkAll ds ≤ 1048576)
def OpenSpec.upto (s : _root_.Go.ChangeSpec) : _root_.Go.OpenSpec := { _root_.Go.OpenSpec.ofChange s with cond := some uptoSmall }

/-- 'lamplighterlaw06.AstNames', WHERE WHAT IT READS IS OF BULK AT MOST 1048576: true; the input reads as it did. -/
def astNamesUptoRow : OpenClaim := { program := "ytbedcplkcaanhaa", sum := "8a5612ebfb9e37c6f1c7fd50b3ae2539405bd7cb83c55f0b3d1dd10bc690a444", func := "lamplighter/lamplighterlaw06.AstNames", spec := "astNames", unfollowed := true, recurses := true, apart := false, narrowed := true }
def AstNamesUptoSaid : Prop := astNamesUptoRow.holds Try.pinned (OpenSpec.upto astNamesSpec)

/-- 'lamplighterlaw06.AstParts', WHERE WHAT IT READS IS OF BULK AT MOST 1048576: true; the input reads as it did. -/
def astPartsUptoRow : OpenClaim := { program := "ytbedcplkcaanhaa", sum := "8a5612ebfb9e37c6f1c7fd50b3ae2539405bd7cb83c55f0b3d1dd10bc690a444", func := "lamplighter/lamplighterlaw06.AstParts", spec := "astParts", unfollowed := true, recurses := true, loops := true, apart := false, narrowed := true }
def AstPartsUptoSaid : Prop := astPartsUptoRow.holds Try.pinned (OpenSpec.upto astPartsSpec)

/-- 'lamplighterlaw06.AstSames', WHERE WHAT IT READS IS OF BULK AT MOST 1048576: true; the input reads as it did. -/
def astSamesUptoRow : OpenClaim := { program := "ytbedcplkcaanhaa", sum := "8a5612ebfb9e37c6f1c7fd50b3ae2539405bd7cb83c55f0b3d1dd10bc690a444", func := "lamplighter/lamplighterlaw06.AstSames", spec := "astSames", unfollowed := true, recurses := true, loops := true, apart := false, narrowed := true }
def AstSamesUptoSaid : Prop := astSamesUptoRow.holds Try.pinned (OpenSpec.upto astSamesSpec)

/-- 'lamplighterlaw06.AstSizes', WHERE WHAT IT READS IS OF BULK AT MOST 1048576: true; the input reads as it did. -/
def astSizesUptoRow : OpenClaim := { program := "ytbedcplkcaanhaa", sum := "8a5612ebfb9e37c6f1c7fd50b3ae2539405bd7cb83c55f0b3d1dd10bc690a444", func := "lamplighter/lamplighterlaw06.AstSizes", spec := "astSizes", unfollowed := true, recurses := true, loops := true, apart := false, narrowed := true }
def AstSizesUptoSaid : Prop := astSizesUptoRow.holds Try.pinned (OpenSpec.upto astSizesSpec)

/-- 'lamplighterlaw06.AstNamed', WHERE WHAT IT READS IS OF BULK AT MOST 1048576: true; the input reads as it did. -/
def astNamedUptoRow : OpenClaim := { program := "ytbedcplkcaanhaa", sum := "8a5612ebfb9e37c6f1c7fd50b3ae2539405bd7cb83c55f0b3d1dd10bc690a444", func := "lamplighter/lamplighterlaw06.AstNamed", spec := "astNamed", unfollowed := true, recurses := true, loops := true, apart := false, narrowed := true }
def AstNamedUptoSaid : Prop := astNamedUptoRow.holds Try.pinned (OpenSpec.upto astNamedSpec)

end Rows
end Go.Proofs.Ytbedcplkcaanhaa
