/-
  DERIVED. GIVEN WITH THE SEED: THE CARDS: each row of YtajfldjhbgilmaaGreatDoorRows.lean that lists a variable, with what it lists TIED to the program's text (the seventh form; the later family's looks); each row that meets fmt, with fmt's text TOLD by the authors' own Lean function (tested against real Go, not proved from fmt's source: count such statements apart). THE CARD IS WHAT COUNTS. Prove the row's statement (the work); the ties are given (YtajfldjhbgilmaaGreatDoorTie.lean); close each card by the builder's one call (the guide's Derived/Test/ToyasCard.lean, 'card_holds'). Laid BY PROGRAM, IN A SANDBOX (cutbox-door.mjs). By AI agents, Wed Nov 11 2026. No macro, syntax, notation, axiom, sorry.
-/
import Derived.Test.YtajfldjhbgilmaaGreatDoorRows
import GoSem.ClaimSeven
namespace Go.Proofs.YtajfldjhbgilmaaGreatDoor
namespace Rows

/-- THE TIED CARD OF 'laws.FnTableRead'. -/
def fnTableReadCard : Claim7 := { stood := { row := fnTableReadRow, standIns := [], harness := (true, "c8d11aaa4ed092735e7378909f47e81b1fb77759a4fba884942db3f95c224037"), looks := true }, kinds := [], alts := [], laidByText := true, laidKinds := [.data, .data, .data, .data, .handle, .sentinel, .sentinel, .pinned], laidTests := true, laidLooks := .later }
def FnTableReadCardSaid : Prop := Claim7.holds Tryz.pinned (.plain (OpenSpec.ofChange fnTableReadSpec)) fnTableReadCard

/-- THE SECOND FORM's CARD OF 'laws.FnTableRead'. -/
def fnTableReadUptoCard : Claim7 := { stood := { row := fnTableReadUptoRow, standIns := [], harness := (true, "c8d11aaa4ed092735e7378909f47e81b1fb77759a4fba884942db3f95c224037"), looks := true }, kinds := [], alts := [], laidByText := true, laidKinds := [.data, .data, .data, .data, .handle, .sentinel, .sentinel, .pinned], laidTests := true, laidLooks := .later }
def FnTableReadUptoCardSaid : Prop := Claim7.holds Tryz.pinned (.plain (OpenSpec.upto fnTableReadSpec)) fnTableReadUptoCard
end Rows
end Go.Proofs.YtajfldjhbgilmaaGreatDoor
