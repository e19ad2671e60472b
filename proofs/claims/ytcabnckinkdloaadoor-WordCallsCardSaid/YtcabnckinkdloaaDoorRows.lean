/-
  NARROWER THAN 'FOR EVERY INPUT', by the rows' own cells (each row's printed sentence says how): WordNames: laid · WordCalls: laid.
  DERIVED. THE GIVEN ROWS OF THIS SEAT. 2 by the template 'for every input the law returns true; each argument reads behind the call as it read before'; 0 by the template 'total and deterministic' (their statements: YtcabnckinkdloaaDoorTotals.lean).
  GIVEN WITH THE SEED: the statements are not yours to turn. If you find one false, say at which input.
  Laid BY PROGRAM, IN A SANDBOX (cutbox-rows.mjs): the forced cells as the released guide's own fill.sh prints them over the translation 4d1b677fab0cd520… (all of the seat's roots in one cut). By AI agents, Wed Nov 11 2026. No macro, syntax, notation, axiom, sorry.
-/
import Derived.Test.YtcabnckinkdloaaDoorChecked
import GoSem.Claim
import GoSem.ClaimJoined
import GoSem.ClaimMapViews
import Derived.JoinedTies
import Derived.KernelRfl
namespace Go.Proofs.YtcabnckinkdloaaDoor
/- THE CELL 'sum', in the pinned program and in every row, IS THE sha256 OF THE DUMP (.gsa) THAT YtcabnckinkdloaaDoorProg.lean LOADS. Nothing in Lean hashes anything: it is a label: what it is worth is what the hold of that sum in a sandbox is worth. -/
noncomputable def Tryd.pinned : Pinned := { name := "ytcabnckinkdloaadoor", sum := "4d1b677fab0cd520a3633ce0ed0937bb864763b6d64f4ded11bf0202b8249a7c", checked := Tryd.checked }
namespace Rows
def none {H : Type} : Left H := { results := [], args := [] }

/- WHAT THE LISTED PACKAGE-LEVEL VARIABLES READ AS WHEN THE CALL BEGINS. Each datum BY PROGRAM (the guide's laid-datum.mjs) off the statement by which the dump's own 'gosem.cut.vars' lays the variable. In a bare row this is a premise. The card (YtcabnckinkdloaaDoorCards.lean) ties it to the program's text. -/
def laid_lamplighter_word_signs {H : Type} : DataW H := .agg [.lit (.string []), .lit (.string [43]), .lit (.string [45]), .lit (.string [42]), .lit (.string [47]), .lit (.string [37]), .lit (.string [115, 47]), .lit (.string [115, 37]), .lit (.string [38]), .lit (.string [124]), .lit (.string [94]), .lit (.string [60, 60]), .lit (.string [62, 62]), .lit (.string [115, 62, 62]), .lit (.string [61, 61]), .lit (.string [33, 61]), .lit (.string [60]), .lit (.string [60, 61]), .lit (.string [115, 60]), .lit (.string [115, 60, 61])]
def laid_lamplighter_word_names {H : Type} : DataW H := .agg [.lit (.string []), .lit (.string [110, 101, 103]), .lit (.string [110, 111, 116]), .lit (.string [122, 101, 114, 111])]

/-- 'lamplighterlaw01.WordNames': WHATEVER THE INPUT: true; the input reads as it did. -/
def wordNamesSpec : ChangeSpec := { name := "wordNames", fn := fun _ => fun
  | [] => { results := [.lit (.bool true)], args := [] }
  | _ => none }
def wordNamesRow : OpenClaim := { program := "ytcabnckinkdloaadoor", sum := "4d1b677fab0cd520a3633ce0ed0937bb864763b6d64f4ded11bf0202b8249a7c", func := "lamplighter/lamplighterlaw01.WordNames", spec := "wordNames", unfollowed := true, recurses := true, named := ["lamplighter/word.signs", "lamplighter/word.names"], apart := false, laid := [("lamplighter/word.signs", laid_lamplighter_word_signs), ("lamplighter/word.names", laid_lamplighter_word_names)] }
def WordNamesSaid : Prop := wordNamesRow.holds Tryd.pinned (OpenSpec.ofChange wordNamesSpec)

/-- ITS FALSE NEIGHBOUR: 'it returns false'. Refute it at one input. -/
def wordNamesWrong : ChangeSpec := { name := "wordNames", fn := fun _ => fun
  | [] => { results := [.lit (.bool false)], args := [] }
  | _ => none }
def WordNamesWrongFalsely : Prop := wordNamesRow.holds Tryd.pinned (OpenSpec.ofChange wordNamesWrong)

/-- 'lamplighterlaw01.WordCalls': WHATEVER THE INPUT: true; the input reads as it did. -/
def wordCallsSpec : ChangeSpec := { name := "wordCalls", fn := fun _ => fun
  | [d1, d2, d3, d4] => { results := [.lit (.bool true)], args := [d1, d2, d3, d4] }
  | _ => none }
def wordCallsRow : OpenClaim := { program := "ytcabnckinkdloaadoor", sum := "4d1b677fab0cd520a3633ce0ed0937bb864763b6d64f4ded11bf0202b8249a7c", func := "lamplighter/lamplighterlaw01.WordCalls", spec := "wordCalls", unfollowed := true, recurses := true, named := ["lamplighter/word.signs", "lamplighter/word.names"], apart := false, laid := [("lamplighter/word.signs", laid_lamplighter_word_signs), ("lamplighter/word.names", laid_lamplighter_word_names)] }
def WordCallsSaid : Prop := wordCallsRow.holds Tryd.pinned (OpenSpec.ofChange wordCallsSpec)

/-- ITS FALSE NEIGHBOUR: 'it returns false'. Refute it at one input. -/
def wordCallsWrong : ChangeSpec := { name := "wordCalls", fn := fun _ => fun
  | [d1, d2, d3, d4] => { results := [.lit (.bool false)], args := [d1, d2, d3, d4] }
  | _ => none }
def WordCallsWrongFalsely : Prop := wordCallsRow.holds Tryd.pinned (OpenSpec.ofChange wordCallsWrong)

/- THE SECOND FORM. 'bulk': how many values and letters a reading holds, each counted each time it is reached (what is shared counts as often as it is met; a slice's spare places count too). A statement '..UptoSaid' is the law's where the arguments, and the package variables that the reading takes, are together of bulk at most 1048576: NARROWER than '..Said'. Prove '..Said' where nothing that the law and all that it calls make is longer than what came in: it says more and counts as full. Else prove '..UptoSaid'. A law counts once. -/
mutual
def uptoBulk {H : Type} : DataW H → Nat
  | .lit (.string bytes) => bytes.length + 1
  | .lit _ => 1
  | .nil => 1
  | .ptr d => uptoBulk d + 1
  | .slice elems spare => uptoBulkAll elems + uptoBulkAll spare + 1
  | .agg parts => uptoBulkAll parts + 1
  | .iface _ d => uptoBulk d + 1
  | .map entries => uptoBulkEntries entries + 1
  | .held _ => 1
def uptoBulkAll {H : Type} : List (DataW H) → Nat
  | [] => 0
  | d :: r => uptoBulk d + uptoBulkAll r
def uptoBulkEntries {H : Type} : List (Lit × DataW H) → Nat
  | [] => 0
  | x :: r => uptoBulkEntry x + uptoBulkEntries r
def uptoBulkEntry {H : Type} : Lit × DataW H → Nat
  | (.string bytes, d) => bytes.length + uptoBulk d + 1
  | (_, d) => uptoBulk d + 1
 end
def uptoSmall : (H : Type) → List (DataW H) → Bool := fun _ ds => decide (uptoBulkAll ds ≤ 1048576)
def OpenSpec.upto (s : _root_.Go.ChangeSpec) : _root_.Go.OpenSpec := { _root_.Go.OpenSpec.ofChange s with cond := some uptoSmall }

/-- 'lamplighterlaw01.WordNames', WHERE WHAT IT READS IS OF BULK AT MOST 1048576: true; the input reads as it did. -/
def wordNamesUptoRow : OpenClaim := { program := "ytcabnckinkdloaadoor", sum := "4d1b677fab0cd520a3633ce0ed0937bb864763b6d64f4ded11bf0202b8249a7c", func := "lamplighter/lamplighterlaw01.WordNames", spec := "wordNames", unfollowed := true, recurses := true, named := ["lamplighter/word.signs", "lamplighter/word.names"], apart := false, laid := [("lamplighter/word.signs", laid_lamplighter_word_signs), ("lamplighter/word.names", laid_lamplighter_word_names)], narrowed := true }
def WordNamesUptoSaid : Prop := wordNamesUptoRow.holds Tryd.pinned (OpenSpec.upto wordNamesSpec)

/-- 'lamplighterlaw01.WordCalls', WHERE WHAT IT READS IS OF BULK AT MOST 1048576: true; the input reads as it did. -/
def wordCallsUptoRow : OpenClaim := { program := "ytcabnckinkdloaadoor", sum := "4d1b677fab0cd520a3633ce0ed0937bb864763b6d64f4ded11bf0202b8249a7c", func := "lamplighter/lamplighterlaw01.WordCalls", spec := "wordCalls", unfollowed := true, recurses := true, named := ["lamplighter/word.signs", "lamplighter/word.names"], apart := false, laid := [("lamplighter/word.signs", laid_lamplighter_word_signs), ("lamplighter/word.names", laid_lamplighter_word_names)], narrowed := true }
def WordCallsUptoSaid : Prop := wordCallsUptoRow.holds Tryd.pinned (OpenSpec.upto wordCallsSpec)

end Rows
end Go.Proofs.YtcabnckinkdloaaDoor
