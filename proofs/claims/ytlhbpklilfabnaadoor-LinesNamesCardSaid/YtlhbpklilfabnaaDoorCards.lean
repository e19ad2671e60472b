/-
  DERIVED. GIVEN WITH THE SEED: THE CARDS: each row of YtlhbpklilfabnaaDoorRows.lean that lists a variable, with what it lists TIED to the program's text (the seventh form; the later family's looks); each row that meets fmt, with fmt's text TOLD by the authors' own Lean function (tested against real Go, not proved from fmt's source: count such statements apart). THE CARD IS WHAT COUNTS. Prove the row's statement (the work); the ties are given (YtlhbpklilfabnaaDoorTie.lean); close each card by the builder's one call (the guide's Derived/Test/ToyasCard.lean, 'card_holds'). Laid BY PROGRAM, IN A SANDBOX (cutbox-door.mjs). By AI agents, Wed Nov 11 2026. No macro, syntax, notation, axiom, sorry.
-/
import Derived.Test.YtlhbpklilfabnaaDoorRows
import GoSem.ClaimSeven
namespace Go.Proofs.YtlhbpklilfabnaaDoor
namespace Rows

/-- THE TIED CARD OF 'lamplighterlaw02.LinesNames'. -/
def linesNamesCard : Claim7 := { stood := { row := linesNamesRow, standIns := [], harness := (true, "10e29c9956ea1c62d178e5065b7c0614fcbf5eeca3933a852df33c943d83d9ee"), looks := false }, kinds := [], alts := [], laidByText := true, laidKinds := [.data], laidTests := true, laidLooks := .later }
def LinesNamesCardSaid : Prop := Claim7.holds Tryd.pinned (.plain (OpenSpec.ofChange linesNamesSpec)) linesNamesCard

/-- THE TIED CARD OF 'lamplighterlaw02.LinesCalls'. -/
def linesCallsCard : Claim7 := { stood := { row := linesCallsRow, standIns := [], harness := (true, "10e29c9956ea1c62d178e5065b7c0614fcbf5eeca3933a852df33c943d83d9ee"), looks := false }, kinds := [], alts := [], laidByText := true, laidKinds := [.data], laidTests := true, laidLooks := .later }
def LinesCallsCardSaid : Prop := Claim7.holds Tryd.pinned (.plain (OpenSpec.ofChange linesCallsSpec)) linesCallsCard

/-- THE TIED CARD OF 'lamplighterlaw02.LinesTakes'. -/
def linesTakesCard : Claim7 := { stood := { row := linesTakesRow, standIns := [], harness := (true, "10e29c9956ea1c62d178e5065b7c0614fcbf5eeca3933a852df33c943d83d9ee"), looks := false }, kinds := [], alts := [], laidByText := true, laidKinds := [.data], laidTests := true, laidLooks := .later }
def LinesTakesCardSaid : Prop := Claim7.holds Tryd.pinned (.plain (OpenSpec.ofChange linesTakesSpec)) linesTakesCard

/-- THE TIED CARD OF 'lamplighterlaw02.LinesSets'. -/
def linesSetsCard : Claim7 := { stood := { row := linesSetsRow, standIns := [], harness := (true, "10e29c9956ea1c62d178e5065b7c0614fcbf5eeca3933a852df33c943d83d9ee"), looks := false }, kinds := [], alts := [], laidByText := true, laidKinds := [.data], laidTests := true, laidLooks := .later }
def LinesSetsCardSaid : Prop := Claim7.holds Tryd.pinned (.plain (OpenSpec.ofChange linesSetsSpec)) linesSetsCard

/-- THE TIED CARD OF 'lamplighterlaw02.LinesTurned'. -/
def linesTurnedCard : Claim7 := { stood := { row := linesTurnedRow, standIns := [], harness := (true, "10e29c9956ea1c62d178e5065b7c0614fcbf5eeca3933a852df33c943d83d9ee"), looks := false }, kinds := [], alts := [], laidByText := true, laidKinds := [.data], laidTests := true, laidLooks := .later }
def LinesTurnedCardSaid : Prop := Claim7.holds Tryd.pinned (.plain (OpenSpec.ofChange linesTurnedSpec)) linesTurnedCard

/-- THE SECOND FORM's CARD OF 'lamplighterlaw02.LinesNames'. -/
def linesNamesUptoCard : Claim7 := { stood := { row := linesNamesUptoRow, standIns := [], harness := (true, "10e29c9956ea1c62d178e5065b7c0614fcbf5eeca3933a852df33c943d83d9ee"), looks := false }, kinds := [], alts := [], laidByText := true, laidKinds := [.data], laidTests := true, laidLooks := .later }
def LinesNamesUptoCardSaid : Prop := Claim7.holds Tryd.pinned (.plain (OpenSpec.upto linesNamesSpec)) linesNamesUptoCard

/-- THE SECOND FORM's CARD OF 'lamplighterlaw02.LinesCalls'. -/
def linesCallsUptoCard : Claim7 := { stood := { row := linesCallsUptoRow, standIns := [], harness := (true, "10e29c9956ea1c62d178e5065b7c0614fcbf5eeca3933a852df33c943d83d9ee"), looks := false }, kinds := [], alts := [], laidByText := true, laidKinds := [.data], laidTests := true, laidLooks := .later }
def LinesCallsUptoCardSaid : Prop := Claim7.holds Tryd.pinned (.plain (OpenSpec.upto linesCallsSpec)) linesCallsUptoCard

/-- THE SECOND FORM's CARD OF 'lamplighterlaw02.LinesTakes'. -/
def linesTakesUptoCard : Claim7 := { stood := { row := linesTakesUptoRow, standIns := [], harness := (true, "10e29c9956ea1c62d178e5065b7c0614fcbf5eeca3933a852df33c943d83d9ee"), looks := false }, kinds := [], alts := [], laidByText := true, laidKinds := [.data], laidTests := true, laidLooks := .later }
def LinesTakesUptoCardSaid : Prop := Claim7.holds Tryd.pinned (.plain (OpenSpec.upto linesTakesSpec)) linesTakesUptoCard

/-- THE SECOND FORM's CARD OF 'lamplighterlaw02.LinesSets'. -/
def linesSetsUptoCard : Claim7 := { stood := { row := linesSetsUptoRow, standIns := [], harness := (true, "10e29c9956ea1c62d178e5065b7c0614fcbf5eeca3933a852df33c943d83d9ee"), looks := false }, kinds := [], alts := [], laidByText := true, laidKinds := [.data], laidTests := true, laidLooks := .later }
def LinesSetsUptoCardSaid : Prop := Claim7.holds Tryd.pinned (.plain (OpenSpec.upto linesSetsSpec)) linesSetsUptoCard

/-- THE SECOND FORM's CARD OF 'lamplighterlaw02.LinesTurned'. -/
def linesTurnedUptoCard : Claim7 := { stood := { row := linesTurnedUptoRow, standIns := [], harness := (true, "10e29c9956ea1c62d178e5065b7c0614fcbf5eeca3933a852df33c943d83d9ee"), looks := false }, kinds := [], alts := [], laidByText := true, laidKinds := [.data], laidTests := true, laidLooks := .later }
def LinesTurnedUptoCardSaid : Prop := Claim7.holds Tryd.pinned (.plain (OpenSpec.upto linesTurnedSpec)) linesTurnedUptoCard
end Rows
end Go.Proofs.YtlhbpklilfabnaaDoor
