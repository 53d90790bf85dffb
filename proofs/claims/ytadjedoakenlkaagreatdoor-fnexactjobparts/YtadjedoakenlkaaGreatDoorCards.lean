/-
  DERIVED. GIVEN WITH THE SEED: THE CARDS: each row of YtadjedoakenlkaaGreatDoorRows.lean that lists a variable, with what it lists TIED to the program's text (the seventh form; the later family's looks); each row that meets fmt, with fmt's text TOLD by the authors' own Lean function (tested against real Go, not proved from fmt's source: count such statements apart). THE CARD IS WHAT COUNTS. Prove the row's statement (the work); the ties are given (YtadjedoakenlkaaGreatDoorTie.lean); close each card by the builder's one call (the guide's Derived/Test/ToyasCard.lean, 'card_holds'). Laid BY PROGRAM, IN A SANDBOX (cutbox-door.mjs). By AI agents, Wed Nov 11 2026. No macro, syntax, notation, axiom, sorry.
-/
import Derived.Test.YtadjedoakenlkaaGreatDoorRows
import GoSem.ClaimSeven
namespace Go.Proofs.YtadjedoakenlkaaGreatDoor
namespace Rows

/-- THE TIED CARD OF 'laws.FnExactJobParts'. -/
def fnExactJobPartsCard : Claim7 := { stood := { row := fnExactJobPartsRow, standIns := [], harness := (true, "1cd8606a7fb9d9ff63f096d9954d7fc1d20efa2ae32a45f324b9c09c04dca1a6"), looks := true }, kinds := [], alts := [], goes := true, laidByText := true, laidKinds := [.data, .data, .data, .sentinel, .sentinel, .listed, .data], laidTests := true, laidLooks := .later }
def FnExactJobPartsCardSaid : Prop := Claim7.holds Tryz.pinned (.plain (OpenSpec.ofChange fnExactJobPartsSpec)) fnExactJobPartsCard

/-- THE SECOND FORM's CARD OF 'laws.FnExactJobParts'. -/
def fnExactJobPartsUptoCard : Claim7 := { stood := { row := fnExactJobPartsUptoRow, standIns := [], harness := (true, "1cd8606a7fb9d9ff63f096d9954d7fc1d20efa2ae32a45f324b9c09c04dca1a6"), looks := true }, kinds := [], alts := [], goes := true, laidByText := true, laidKinds := [.data, .data, .data, .sentinel, .sentinel, .listed, .data], laidTests := true, laidLooks := .later }
def FnExactJobPartsUptoCardSaid : Prop := Claim7.holds Tryz.pinned (.plain (OpenSpec.upto fnExactJobPartsSpec)) fnExactJobPartsUptoCard
end Rows
end Go.Proofs.YtadjedoakenlkaaGreatDoor
