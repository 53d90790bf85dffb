/-
  DERIVED. GIVEN WITH THE SEED: THE CARDS: each row of YtdippfdobieefaaGreatDoorRows.lean that lists a variable, with what it lists TIED to the program's text (the seventh form; the later family's looks); each row that meets fmt, with fmt's text TOLD by the authors' own Lean function (tested against real Go, not proved from fmt's source: count such statements apart). THE CARD IS WHAT COUNTS. Prove the row's statement (the work); the ties are given (YtdippfdobieefaaGreatDoorTie.lean); close each card by the builder's one call (the guide's Derived/Test/ToyasCard.lean, 'card_holds'). Laid BY PROGRAM, IN A SANDBOX (cutbox-door.mjs). By AI agents, Wed Nov 11 2026. No macro, syntax, notation, axiom, sorry.
-/
import Derived.Test.YtdippfdobieefaaGreatDoorRows
import GoSem.ClaimSeven
namespace Go.Proofs.YtdippfdobieefaaGreatDoor
namespace Rows

/-- THE TIED CARD OF 'laws.FnTableBack'. -/
def fnTableBackCard : Claim7 := { stood := { row := fnTableBackRow, standIns := [], harness := (true, "6ef232954c734f99cb353a0a6df3888c5cdc5bb299e2b88c033d826112975855"), looks := true }, kinds := [], alts := [], laidByText := true, laidKinds := [.data, .data, .data, .data, .handle, .sentinel, .sentinel, .pinned], laidTests := true, laidLooks := .later }
def FnTableBackCardSaid : Prop := Claim7.holds Tryz.pinned (.plain (OpenSpec.ofChange fnTableBackSpec)) fnTableBackCard

/-- THE TIED CARD OF 'laws.FnTableRead'. -/
def fnTableReadCard : Claim7 := { stood := { row := fnTableReadRow, standIns := [], harness := (true, "6ef232954c734f99cb353a0a6df3888c5cdc5bb299e2b88c033d826112975855"), looks := true }, kinds := [], alts := [], laidByText := true, laidKinds := [.data, .data, .data, .data, .handle, .sentinel, .sentinel, .pinned], laidTests := true, laidLooks := .later }
def FnTableReadCardSaid : Prop := Claim7.holds Tryz.pinned (.plain (OpenSpec.ofChange fnTableReadSpec)) fnTableReadCard

/-- THE TIED CARD OF 'laws.FnExactTableRead'. -/
def fnExactTableReadCard : Claim7 := { stood := { row := fnExactTableReadRow, standIns := [], harness := (true, "6ef232954c734f99cb353a0a6df3888c5cdc5bb299e2b88c033d826112975855"), looks := true }, kinds := [], alts := [], laidByText := true, laidKinds := [.data, .data, .data, .data, .handle, .sentinel, .sentinel, .pinned], laidTests := true, laidLooks := .later }
def FnExactTableReadCardSaid : Prop := Claim7.holds Tryz.pinned (.plain (OpenSpec.ofChange fnExactTableReadSpec)) fnExactTableReadCard

/-- THE SECOND FORM's CARD OF 'laws.FnTableBack'. -/
def fnTableBackUptoCard : Claim7 := { stood := { row := fnTableBackUptoRow, standIns := [], harness := (true, "6ef232954c734f99cb353a0a6df3888c5cdc5bb299e2b88c033d826112975855"), looks := true }, kinds := [], alts := [], laidByText := true, laidKinds := [.data, .data, .data, .data, .handle, .sentinel, .sentinel, .pinned], laidTests := true, laidLooks := .later }
def FnTableBackUptoCardSaid : Prop := Claim7.holds Tryz.pinned (.plain (OpenSpec.upto fnTableBackSpec)) fnTableBackUptoCard

/-- THE SECOND FORM's CARD OF 'laws.FnTableRead'. -/
def fnTableReadUptoCard : Claim7 := { stood := { row := fnTableReadUptoRow, standIns := [], harness := (true, "6ef232954c734f99cb353a0a6df3888c5cdc5bb299e2b88c033d826112975855"), looks := true }, kinds := [], alts := [], laidByText := true, laidKinds := [.data, .data, .data, .data, .handle, .sentinel, .sentinel, .pinned], laidTests := true, laidLooks := .later }
def FnTableReadUptoCardSaid : Prop := Claim7.holds Tryz.pinned (.plain (OpenSpec.upto fnTableReadSpec)) fnTableReadUptoCard

/-- THE SECOND FORM's CARD OF 'laws.FnExactTableRead'. -/
def fnExactTableReadUptoCard : Claim7 := { stood := { row := fnExactTableReadUptoRow, standIns := [], harness := (true, "6ef232954c734f99cb353a0a6df3888c5cdc5bb299e2b88c033d826112975855"), looks := true }, kinds := [], alts := [], laidByText := true, laidKinds := [.data, .data, .data, .data, .handle, .sentinel, .sentinel, .pinned], laidTests := true, laidLooks := .later }
def FnExactTableReadUptoCardSaid : Prop := Claim7.holds Tryz.pinned (.plain (OpenSpec.upto fnExactTableReadSpec)) fnExactTableReadUptoCard
end Rows
end Go.Proofs.YtdippfdobieefaaGreatDoor
