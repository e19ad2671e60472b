/-
  DERIVED. GIVEN WITH THE SEED: THE CARDS: each row of YtaeblnlbelebkaaGreatDoorRows.lean that lists a variable, with what it lists TIED to the program's text (the seventh form; the later family's looks); each row that meets fmt, with fmt's text TOLD by the authors' own Lean function (tested against real Go, not proved from fmt's source: count such statements apart). THE CARD IS WHAT COUNTS. Prove the row's statement (the work); the ties are given (YtaeblnlbelebkaaGreatDoorTie.lean); close each card by the builder's one call (the guide's Derived/Test/ToyasCard.lean, 'card_holds'). Laid BY PROGRAM, IN A SANDBOX (cutbox-door.mjs). By AI agents, Wed Nov 11 2026. No macro, syntax, notation, axiom, sorry.
-/
import Derived.Test.YtaeblnlbelebkaaGreatDoorRows
import GoSem.ClaimSeven
namespace Go.Proofs.YtaeblnlbelebkaaGreatDoor
namespace Rows

/-- THE TIED CARD OF 'lamplighterlaw04.ImageCalls'. -/
def imageCallsCard : Claim7 := { stood := { row := imageCallsRow, standIns := [], harness := (true, "776005a99e52be955b17eb4b4b753e2c8aa1fe0eae06e0245873eb7ddc38a2b2"), looks := false }, kinds := [], alts := [], laidByText := true, laidKinds := [.data, .data, .data, .data, .data, .data], laidTests := true, laidLooks := .later }
def ImageCallsCardSaid : Prop := Claim7.holds Tryz.pinned (.plain (OpenSpec.ofChange imageCallsSpec)) imageCallsCard

/-- THE TIED CARD OF 'lamplighterlaw04.ImageApart'. -/
def imageApartCard : Claim7 := { stood := { row := imageApartRow, standIns := [], harness := (true, "776005a99e52be955b17eb4b4b753e2c8aa1fe0eae06e0245873eb7ddc38a2b2"), looks := false }, kinds := [], alts := [], laidByText := true, laidKinds := [.data, .data, .data, .data, .data, .data], laidTests := true, laidLooks := .later }
def ImageApartCardSaid : Prop := Claim7.holds Tryz.pinned (.plain (OpenSpec.ofChange imageApartSpec)) imageApartCard

/-- THE SECOND FORM's CARD OF 'lamplighterlaw04.ImageCalls'. -/
def imageCallsUptoCard : Claim7 := { stood := { row := imageCallsUptoRow, standIns := [], harness := (true, "776005a99e52be955b17eb4b4b753e2c8aa1fe0eae06e0245873eb7ddc38a2b2"), looks := false }, kinds := [], alts := [], laidByText := true, laidKinds := [.data, .data, .data, .data, .data, .data], laidTests := true, laidLooks := .later }
def ImageCallsUptoCardSaid : Prop := Claim7.holds Tryz.pinned (.plain (OpenSpec.upto imageCallsSpec)) imageCallsUptoCard

/-- THE SECOND FORM's CARD OF 'lamplighterlaw04.ImageApart'. -/
def imageApartUptoCard : Claim7 := { stood := { row := imageApartUptoRow, standIns := [], harness := (true, "776005a99e52be955b17eb4b4b753e2c8aa1fe0eae06e0245873eb7ddc38a2b2"), looks := false }, kinds := [], alts := [], laidByText := true, laidKinds := [.data, .data, .data, .data, .data, .data], laidTests := true, laidLooks := .later }
def ImageApartUptoCardSaid : Prop := Claim7.holds Tryz.pinned (.plain (OpenSpec.upto imageApartSpec)) imageApartUptoCard
end Rows
end Go.Proofs.YtaeblnlbelebkaaGreatDoor
