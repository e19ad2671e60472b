/-
  DERIVED. GIVEN WITH THE SEED: THE CARDS: each row of YtcabnckinkdloaaDoorRows.lean that lists a variable, with what it lists TIED to the program's text (the seventh form; the later family's looks); each row that meets fmt, with fmt's text TOLD by the authors' own Lean function (tested against real Go, not proved from fmt's source: count such statements apart). THE CARD IS WHAT COUNTS. Prove the row's statement (the work); the ties are given (YtcabnckinkdloaaDoorTie.lean); close each card by the builder's one call (the guide's Derived/Test/ToyasCard.lean, 'card_holds'). Laid BY PROGRAM, IN A SANDBOX (cutbox-door.mjs). By AI agents, Wed Nov 11 2026. No macro, syntax, notation, axiom, sorry.
-/
import Derived.Test.YtcabnckinkdloaaDoorRows
import GoSem.ClaimSeven
namespace Go.Proofs.YtcabnckinkdloaaDoor
namespace Rows

/-- THE TIED CARD OF 'lamplighterlaw01.WordNames'. -/
def wordNamesCard : Claim7 := { stood := { row := wordNamesRow, standIns := [], harness := (true, "dbdcca1d959469c29f0f430122e67e1cb6c475d96920660a083bf7e1321f23e4"), looks := false }, kinds := [], alts := [], laidByText := true, laidKinds := [.data, .data], laidTests := true, laidLooks := .later }
def WordNamesCardSaid : Prop := Claim7.holds Tryd.pinned (.plain (OpenSpec.ofChange wordNamesSpec)) wordNamesCard

/-- THE TIED CARD OF 'lamplighterlaw01.WordCalls'. -/
def wordCallsCard : Claim7 := { stood := { row := wordCallsRow, standIns := [], harness := (true, "dbdcca1d959469c29f0f430122e67e1cb6c475d96920660a083bf7e1321f23e4"), looks := false }, kinds := [], alts := [], laidByText := true, laidKinds := [.data, .data], laidTests := true, laidLooks := .later }
def WordCallsCardSaid : Prop := Claim7.holds Tryd.pinned (.plain (OpenSpec.ofChange wordCallsSpec)) wordCallsCard

/-- THE SECOND FORM's CARD OF 'lamplighterlaw01.WordNames'. -/
def wordNamesUptoCard : Claim7 := { stood := { row := wordNamesUptoRow, standIns := [], harness := (true, "dbdcca1d959469c29f0f430122e67e1cb6c475d96920660a083bf7e1321f23e4"), looks := false }, kinds := [], alts := [], laidByText := true, laidKinds := [.data, .data], laidTests := true, laidLooks := .later }
def WordNamesUptoCardSaid : Prop := Claim7.holds Tryd.pinned (.plain (OpenSpec.upto wordNamesSpec)) wordNamesUptoCard

/-- THE SECOND FORM's CARD OF 'lamplighterlaw01.WordCalls'. -/
def wordCallsUptoCard : Claim7 := { stood := { row := wordCallsUptoRow, standIns := [], harness := (true, "dbdcca1d959469c29f0f430122e67e1cb6c475d96920660a083bf7e1321f23e4"), looks := false }, kinds := [], alts := [], laidByText := true, laidKinds := [.data, .data], laidTests := true, laidLooks := .later }
def WordCallsUptoCardSaid : Prop := Claim7.holds Tryd.pinned (.plain (OpenSpec.upto wordCallsSpec)) wordCallsUptoCard
end Rows
end Go.Proofs.YtcabnckinkdloaaDoor
