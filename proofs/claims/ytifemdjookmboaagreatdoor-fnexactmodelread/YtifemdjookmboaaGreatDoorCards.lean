/-
  DERIVED. GIVEN WITH THE SEED: THE CARDS: each row of YtifemdjookmboaaGreatDoorRows.lean that lists a variable, with what it lists TIED to the program's text (the seventh form; the later family's looks); each row that meets fmt, with fmt's text TOLD by the authors' own Lean function (tested against real Go, not proved from fmt's source: count such statements apart). THE CARD IS WHAT COUNTS. Prove the row's statement (the work); the ties are given (YtifemdjookmboaaGreatDoorTie.lean); close each card by the builder's one call (the guide's Derived/Test/ToyasCard.lean, 'card_holds'). Laid BY PROGRAM, IN A SANDBOX (cutbox-door.mjs). By AI agents, Wed Nov 11 2026. No macro, syntax, notation, axiom, sorry.
-/
import Derived.Test.YtifemdjookmboaaGreatDoorRows
import GoSem.ClaimSeven
namespace Go.Proofs.YtifemdjookmboaaGreatDoor
namespace Rows

/-- THE TIED CARD OF 'laws.FnExactModelRead'. -/
def fnExactModelReadCard : Claim7 := { stood := { row := fnExactModelReadRow, standIns := [], harness := (true, "873bd2aaa487dd12220f4c42956b55ccf04be17b111daaf5be5a8f0c486da248"), looks := true }, kinds := [], alts := [], laidByText := true, laidKinds := [.data, .data, .data, .data, .sentinel, .sentinel, .listed, .data, .pinned], laidTests := true, laidLooks := .later }
def FnExactModelReadCardSaid : Prop := Claim7.holds Tryz.pinned (.plain (OpenSpec.ofChange fnExactModelReadSpec)) fnExactModelReadCard

/-- THE SECOND FORM's CARD OF 'laws.FnExactModelRead'. -/
def fnExactModelReadUptoCard : Claim7 := { stood := { row := fnExactModelReadUptoRow, standIns := [], harness := (true, "873bd2aaa487dd12220f4c42956b55ccf04be17b111daaf5be5a8f0c486da248"), looks := true }, kinds := [], alts := [], laidByText := true, laidKinds := [.data, .data, .data, .data, .sentinel, .sentinel, .listed, .data, .pinned], laidTests := true, laidLooks := .later }
def FnExactModelReadUptoCardSaid : Prop := Claim7.holds Tryz.pinned (.plain (OpenSpec.upto fnExactModelReadSpec)) fnExactModelReadUptoCard
end Rows
end Go.Proofs.YtifemdjookmboaaGreatDoor
