/-
  DERIVED. GIVEN WITH THE SEED: THE CARDS: each row of YtaojoamldoofpaaGreatDoorRows.lean that lists a variable, with what it lists TIED to the program's text (the seventh form; the later family's looks); each row that meets fmt, with fmt's text TOLD by the authors' own Lean function (tested against real Go, not proved from fmt's source: count such statements apart). THE CARD IS WHAT COUNTS. Prove the row's statement (the work); the ties are given (YtaojoamldoofpaaGreatDoorTie.lean); close each card by the builder's one call (the guide's Derived/Test/ToyasCard.lean, 'card_holds'). Laid BY PROGRAM, IN A SANDBOX (cutbox-door.mjs). By AI agents, Wed Nov 11 2026. No macro, syntax, notation, axiom, sorry.
-/
import Derived.Test.YtaojoamldoofpaaGreatDoorRows
import GoSem.ClaimSeven
namespace Go.Proofs.YtaojoamldoofpaaGreatDoor
namespace Rows

/-- THE TIED CARD OF 'laws.FnModelBack'. -/
def fnModelBackCard : Claim7 := { stood := { row := fnModelBackRow, standIns := [], harness := (true, "a741bda0c8f48fed2c94718601f2a419d44240aca8e6160dc8aaf7a3322a75f5"), looks := true }, kinds := [], alts := [], laidByText := true, laidKinds := [.data, .data, .data, .data, .sentinel, .sentinel, .listed, .data, .pinned], laidTests := true, laidLooks := .later }
def FnModelBackCardSaid : Prop := Claim7.holds Tryz.pinned (.plain (OpenSpec.ofChange fnModelBackSpec)) fnModelBackCard

/-- THE TIED CARD OF 'laws.FnOneBit'. -/
def fnOneBitCard : Claim7 := { stood := { row := fnOneBitRow, standIns := [], harness := (true, "a741bda0c8f48fed2c94718601f2a419d44240aca8e6160dc8aaf7a3322a75f5"), looks := true }, kinds := [], alts := [], laidByText := true, laidKinds := [.data, .data, .data, .data, .sentinel, .sentinel, .listed, .data, .pinned], laidTests := true, laidLooks := .later }
def FnOneBitCardSaid : Prop := Claim7.holds Tryz.pinned (.plain (OpenSpec.ofChange fnOneBitSpec)) fnOneBitCard

/-- THE SECOND FORM's CARD OF 'laws.FnModelBack'. -/
def fnModelBackUptoCard : Claim7 := { stood := { row := fnModelBackUptoRow, standIns := [], harness := (true, "a741bda0c8f48fed2c94718601f2a419d44240aca8e6160dc8aaf7a3322a75f5"), looks := true }, kinds := [], alts := [], laidByText := true, laidKinds := [.data, .data, .data, .data, .sentinel, .sentinel, .listed, .data, .pinned], laidTests := true, laidLooks := .later }
def FnModelBackUptoCardSaid : Prop := Claim7.holds Tryz.pinned (.plain (OpenSpec.upto fnModelBackSpec)) fnModelBackUptoCard

/-- THE SECOND FORM's CARD OF 'laws.FnOneBit'. -/
def fnOneBitUptoCard : Claim7 := { stood := { row := fnOneBitUptoRow, standIns := [], harness := (true, "a741bda0c8f48fed2c94718601f2a419d44240aca8e6160dc8aaf7a3322a75f5"), looks := true }, kinds := [], alts := [], laidByText := true, laidKinds := [.data, .data, .data, .data, .sentinel, .sentinel, .listed, .data, .pinned], laidTests := true, laidLooks := .later }
def FnOneBitUptoCardSaid : Prop := Claim7.holds Tryz.pinned (.plain (OpenSpec.upto fnOneBitSpec)) fnOneBitUptoCard
end Rows
end Go.Proofs.YtaojoamldoofpaaGreatDoor
