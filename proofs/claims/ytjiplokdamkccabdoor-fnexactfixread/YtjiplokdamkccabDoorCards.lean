/-
  DERIVED. GIVEN WITH THE SEED: THE CARDS: each row of YtjiplokdamkccabDoorRows.lean that lists a variable, with what it lists TIED to the program's text (the seventh form; the later family's looks); each row that meets fmt, with fmt's text TOLD by the authors' own Lean function (tested against real Go, not proved from fmt's source: count such statements apart). THE CARD IS WHAT COUNTS. Prove the row's statement (the work); the ties are given (YtjiplokdamkccabDoorTie.lean); close each card by the builder's one call (the guide's Derived/Test/ToyasCard.lean, 'card_holds'). Laid BY PROGRAM, IN A SANDBOX (cutbox-door.mjs). By AI agents, Wed Nov 11 2026. No macro, syntax, notation, axiom, sorry.
-/
import Derived.Test.YtjiplokdamkccabDoorRows
import GoSem.ClaimSeven
namespace Go.Proofs.YtjiplokdamkccabDoor
namespace Rows

/-- THE TIED CARD OF 'laws.FnExactFixText'. -/
def fnExactFixTextCard : Claim7 := { stood := { row := fnExactFixTextRow, standIns := [], harness := (true, "bf13431babb4f789c1ce21ef083738c68e4aa7844084cf98cb86f3eba30bb5bd"), looks := true }, kinds := [], alts := [], laidByText := true, laidKinds := [.data, .data, .data], laidTests := true, laidLooks := .later }
def FnExactFixTextCardSaid : Prop := Claim7.holds Tryd.pinned (.plain (OpenSpec.ofChange fnExactFixTextSpec)) fnExactFixTextCard

/-- THE TIED CARD OF 'laws.FnExactFixRead'. -/
def fnExactFixReadCard : Claim7 := { stood := { row := fnExactFixReadRow, standIns := [], harness := (true, "bf13431babb4f789c1ce21ef083738c68e4aa7844084cf98cb86f3eba30bb5bd"), looks := true }, kinds := [], alts := [], laidByText := true, laidKinds := [.data, .data, .data, .data, .sentinel, .sentinel, .pinned], laidTests := true, laidLooks := .later }
def FnExactFixReadCardSaid : Prop := Claim7.holds Tryd.pinned (.plain (OpenSpec.ofChange fnExactFixReadSpec)) fnExactFixReadCard

/-- THE TIED CARD OF 'laws.FnExactNumText'. -/
def fnExactNumTextCard : Claim7 := { stood := { row := fnExactNumTextRow, standIns := [], harness := (true, "bf13431babb4f789c1ce21ef083738c68e4aa7844084cf98cb86f3eba30bb5bd"), looks := true }, kinds := [], alts := [], laidByText := true, laidKinds := [.data, .data, .data], laidTests := true, laidLooks := .later }
def FnExactNumTextCardSaid : Prop := Claim7.holds Tryd.pinned (.plain (OpenSpec.ofChange fnExactNumTextSpec)) fnExactNumTextCard

/-- THE SECOND FORM's CARD OF 'laws.FnExactFixText'. -/
def fnExactFixTextUptoCard : Claim7 := { stood := { row := fnExactFixTextUptoRow, standIns := [], harness := (true, "bf13431babb4f789c1ce21ef083738c68e4aa7844084cf98cb86f3eba30bb5bd"), looks := true }, kinds := [], alts := [], laidByText := true, laidKinds := [.data, .data, .data], laidTests := true, laidLooks := .later }
def FnExactFixTextUptoCardSaid : Prop := Claim7.holds Tryd.pinned (.plain (OpenSpec.upto fnExactFixTextSpec)) fnExactFixTextUptoCard

/-- THE SECOND FORM's CARD OF 'laws.FnExactFixRead'. -/
def fnExactFixReadUptoCard : Claim7 := { stood := { row := fnExactFixReadUptoRow, standIns := [], harness := (true, "bf13431babb4f789c1ce21ef083738c68e4aa7844084cf98cb86f3eba30bb5bd"), looks := true }, kinds := [], alts := [], laidByText := true, laidKinds := [.data, .data, .data, .data, .sentinel, .sentinel, .pinned], laidTests := true, laidLooks := .later }
def FnExactFixReadUptoCardSaid : Prop := Claim7.holds Tryd.pinned (.plain (OpenSpec.upto fnExactFixReadSpec)) fnExactFixReadUptoCard

/-- THE SECOND FORM's CARD OF 'laws.FnExactNumText'. -/
def fnExactNumTextUptoCard : Claim7 := { stood := { row := fnExactNumTextUptoRow, standIns := [], harness := (true, "bf13431babb4f789c1ce21ef083738c68e4aa7844084cf98cb86f3eba30bb5bd"), looks := true }, kinds := [], alts := [], laidByText := true, laidKinds := [.data, .data, .data], laidTests := true, laidLooks := .later }
def FnExactNumTextUptoCardSaid : Prop := Claim7.holds Tryd.pinned (.plain (OpenSpec.upto fnExactNumTextSpec)) fnExactNumTextUptoCard
end Rows
end Go.Proofs.YtjiplokdamkccabDoor
