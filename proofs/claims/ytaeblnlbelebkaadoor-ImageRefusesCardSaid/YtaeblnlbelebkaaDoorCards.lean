/-
  DERIVED. GIVEN WITH THE SEED: THE CARDS: each row of YtaeblnlbelebkaaDoorRows.lean that lists a variable, with what it lists TIED to the program's text (the seventh form; the later family's looks); each row that meets fmt, with fmt's text TOLD by the authors' own Lean function (tested against real Go, not proved from fmt's source: count such statements apart). THE CARD IS WHAT COUNTS. Prove the row's statement (the work); the ties are given (YtaeblnlbelebkaaDoorTie.lean); close each card by the builder's one call (the guide's Derived/Test/ToyasCard.lean, 'card_holds'). Laid BY PROGRAM, IN A SANDBOX (cutbox-door.mjs). By AI agents, Wed Nov 11 2026. No macro, syntax, notation, axiom, sorry.
-/
import Derived.Test.YtaeblnlbelebkaaDoorRows
import GoSem.ClaimSeven
namespace Go.Proofs.YtaeblnlbelebkaaDoor
namespace Rows

/-- THE TIED CARD OF 'lamplighterlaw04.ImageNames'. -/
def imageNamesCard : Claim7 := { stood := { row := imageNamesRow, standIns := [], harness := (true, "9292e3fae8ebef237c6b95650c7c2aa914f04c7a9af05e559943ee5dda47400a"), looks := false }, kinds := [], alts := [], laidByText := true, laidKinds := [.data, .data, .data, .data, .data, .data], laidTests := true, laidLooks := .later }
def ImageNamesCardSaid : Prop := Claim7.holds Tryd.pinned (.plain (OpenSpec.ofChange imageNamesSpec)) imageNamesCard

/-- THE TIED CARD OF 'lamplighterlaw04.ImageBack'. -/
def imageBackCard : Claim7 := { stood := { row := imageBackRow, standIns := [], harness := (true, "9292e3fae8ebef237c6b95650c7c2aa914f04c7a9af05e559943ee5dda47400a"), looks := false }, kinds := [], alts := [], laidByText := true, laidKinds := [.data, .data, .data], laidTests := true, laidLooks := .later }
def ImageBackCardSaid : Prop := Claim7.holds Tryd.pinned (.plain (OpenSpec.ofChange imageBackSpec)) imageBackCard

/-- THE TIED CARD OF 'lamplighterlaw04.ImageOrder'. -/
def imageOrderCard : Claim7 := { stood := { row := imageOrderRow, standIns := [], harness := (true, "9292e3fae8ebef237c6b95650c7c2aa914f04c7a9af05e559943ee5dda47400a"), looks := false }, kinds := [], alts := [], laidByText := true, laidKinds := [.data, .data, .data], laidTests := true, laidLooks := .later }
def ImageOrderCardSaid : Prop := Claim7.holds Tryd.pinned (.plain (OpenSpec.ofChange imageOrderSpec)) imageOrderCard

/-- THE TIED CARD OF 'lamplighterlaw04.ImageRefuses'. -/
def imageRefusesCard : Claim7 := { stood := { row := imageRefusesRow, standIns := [], harness := (true, "9292e3fae8ebef237c6b95650c7c2aa914f04c7a9af05e559943ee5dda47400a"), looks := false }, kinds := [], alts := [], laidByText := true, laidKinds := [.data, .data, .data], laidTests := true, laidLooks := .later }
def ImageRefusesCardSaid : Prop := Claim7.holds Tryd.pinned (.plain (OpenSpec.ofChange imageRefusesSpec)) imageRefusesCard

/-- THE SECOND FORM's CARD OF 'lamplighterlaw04.ImageNames'. -/
def imageNamesUptoCard : Claim7 := { stood := { row := imageNamesUptoRow, standIns := [], harness := (true, "9292e3fae8ebef237c6b95650c7c2aa914f04c7a9af05e559943ee5dda47400a"), looks := false }, kinds := [], alts := [], laidByText := true, laidKinds := [.data, .data, .data, .data, .data, .data], laidTests := true, laidLooks := .later }
def ImageNamesUptoCardSaid : Prop := Claim7.holds Tryd.pinned (.plain (OpenSpec.upto imageNamesSpec)) imageNamesUptoCard

/-- THE SECOND FORM's CARD OF 'lamplighterlaw04.ImageBack'. -/
def imageBackUptoCard : Claim7 := { stood := { row := imageBackUptoRow, standIns := [], harness := (true, "9292e3fae8ebef237c6b95650c7c2aa914f04c7a9af05e559943ee5dda47400a"), looks := false }, kinds := [], alts := [], laidByText := true, laidKinds := [.data, .data, .data], laidTests := true, laidLooks := .later }
def ImageBackUptoCardSaid : Prop := Claim7.holds Tryd.pinned (.plain (OpenSpec.upto imageBackSpec)) imageBackUptoCard

/-- THE SECOND FORM's CARD OF 'lamplighterlaw04.ImageOrder'. -/
def imageOrderUptoCard : Claim7 := { stood := { row := imageOrderUptoRow, standIns := [], harness := (true, "9292e3fae8ebef237c6b95650c7c2aa914f04c7a9af05e559943ee5dda47400a"), looks := false }, kinds := [], alts := [], laidByText := true, laidKinds := [.data, .data, .data], laidTests := true, laidLooks := .later }
def ImageOrderUptoCardSaid : Prop := Claim7.holds Tryd.pinned (.plain (OpenSpec.upto imageOrderSpec)) imageOrderUptoCard

/-- THE SECOND FORM's CARD OF 'lamplighterlaw04.ImageRefuses'. -/
def imageRefusesUptoCard : Claim7 := { stood := { row := imageRefusesUptoRow, standIns := [], harness := (true, "9292e3fae8ebef237c6b95650c7c2aa914f04c7a9af05e559943ee5dda47400a"), looks := false }, kinds := [], alts := [], laidByText := true, laidKinds := [.data, .data, .data], laidTests := true, laidLooks := .later }
def ImageRefusesUptoCardSaid : Prop := Claim7.holds Tryd.pinned (.plain (OpenSpec.upto imageRefusesSpec)) imageRefusesUptoCard
end Rows
end Go.Proofs.YtaeblnlbelebkaaDoor
