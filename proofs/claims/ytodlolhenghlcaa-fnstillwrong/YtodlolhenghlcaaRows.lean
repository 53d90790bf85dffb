/-
  No cell of these rows narrows 'for every input' (looked for: loops, veiled, ifaces, maps, wideKeys, modest, calm, conditions, laid).
  DERIVED. THE GIVEN ROWS OF THIS SEAT. 4 by the template 'for every input the law returns true; each argument reads behind the call as it read before'; 0 by the template 'total and deterministic' (their statements: YtodlolhenghlcaaTotals.lean).
  GIVEN WITH THE SEED: the statements are not yours to turn. If you find one false, say at which input.
  Laid BY PROGRAM, IN A SANDBOX (cutbox-rows.mjs): the forced cells as the released guide's own fill.sh prints them over the translation fdaed62b6090ed11… (all of the seat's roots in one cut). By AI agents, Wed Nov 11 2026. No macro, syntax, notation, axiom, sorry.
-/
import Derived.Test.YtodlolhenghlcaaChecked
import GoSem.Claim
import GoSem.ClaimJoined
import GoSem.ClaimMapViews
import Derived.JoinedTies
import Derived.KernelRfl
namespace Go.Proofs.Ytodlolhenghlcaa
/- THE CELL 'sum', in the pinned program and in every row, IS THE sha256 OF THE DUMP (.gsa) THAT YtodlolhenghlcaaProg.lean LOADS. Nothing in Lean hashes anything: it is a label: what it is worth is what the hold of that sum in a sandbox is worth. -/
noncomputable def Try.pinned : Pinned := { name := "ytodlolhenghlcaa", sum := "fdaed62b6090ed11747f4114183630e60d372e60a830a1c5766798096429cba6", checked := Try.checked }
namespace Rows
def none {H : Type} : Left H := { results := [], args := [] }

/-- 'laws.FnStillWrong': WHATEVER THE INPUT: true; the input reads as it did. -/
def fnStillWrongSpec : ChangeSpec := { name := "fnStillWrong", fn := fun _ => fun
  | [d] => { results := [.lit (.bool true)], args := [d] }
  | _ => none }
def fnStillWrongRow : OpenClaim := { program := "ytodlolhenghlcaa", sum := "fdaed62b6090ed11747f4114183630e60d372e60a830a1c5766798096429cba6", func := "loop.example/g00566/laws.FnStillWrong", spec := "fnStillWrong", apart := false }
def FnStillWrongSaid : Prop := fnStillWrongRow.holds Try.pinned (OpenSpec.ofChange fnStillWrongSpec)

/-- ITS FALSE NEIGHBOUR: 'it returns false'. Refute it at one input. -/
def fnStillWrongWrong : ChangeSpec := { name := "fnStillWrong", fn := fun _ => fun
  | [d] => { results := [.lit (.bool false)], args := [d] }
  | _ => none }
def FnStillWrongWrongFalsely : Prop := fnStillWrongRow.holds Try.pinned (OpenSpec.ofChange fnStillWrongWrong)

/-- 'laws.FnExactConfOk': WHATEVER THE INPUT: true; the input reads as it did. -/
def fnExactConfOkSpec : ChangeSpec := { name := "fnExactConfOk", fn := fun _ => fun
  | [d] => { results := [.lit (.bool true)], args := [d] }
  | _ => none }
def fnExactConfOkRow : OpenClaim := { program := "ytodlolhenghlcaa", sum := "fdaed62b6090ed11747f4114183630e60d372e60a830a1c5766798096429cba6", func := "loop.example/g00566/laws.FnExactConfOk", spec := "fnExactConfOk", apart := false }
def FnExactConfOkSaid : Prop := fnExactConfOkRow.holds Try.pinned (OpenSpec.ofChange fnExactConfOkSpec)

/-- ITS FALSE NEIGHBOUR: 'it returns false'. Refute it at one input. -/
def fnExactConfOkWrong : ChangeSpec := { name := "fnExactConfOk", fn := fun _ => fun
  | [d] => { results := [.lit (.bool false)], args := [d] }
  | _ => none }
def FnExactConfOkWrongFalsely : Prop := fnExactConfOkRow.holds Try.pinned (OpenSpec.ofChange fnExactConfOkWrong)

/-- 'laws.FnExactBaseOf': WHATEVER THE INPUT: true; the input reads as it did. -/
def fnExactBaseOfSpec : ChangeSpec := { name := "fnExactBaseOf", fn := fun _ => fun
  | [d] => { results := [.lit (.bool true)], args := [d] }
  | _ => none }
def fnExactBaseOfRow : OpenClaim := { program := "ytodlolhenghlcaa", sum := "fdaed62b6090ed11747f4114183630e60d372e60a830a1c5766798096429cba6", func := "loop.example/g00566/laws.FnExactBaseOf", spec := "fnExactBaseOf", apart := false }
def FnExactBaseOfSaid : Prop := fnExactBaseOfRow.holds Try.pinned (OpenSpec.ofChange fnExactBaseOfSpec)

/-- ITS FALSE NEIGHBOUR: 'it returns false'. Refute it at one input. -/
def fnExactBaseOfWrong : ChangeSpec := { name := "fnExactBaseOf", fn := fun _ => fun
  | [d] => { results := [.lit (.bool false)], args := [d] }
  | _ => none }
def FnExactBaseOfWrongFalsely : Prop := fnExactBaseOfRow.holds Try.pinned (OpenSpec.ofChange fnExactBaseOfWrong)

/-- 'laws.FnExactGradsOf': WHATEVER THE INPUT: true; the input reads as it did. -/
def fnExactGradsOfSpec : ChangeSpec := { name := "fnExactGradsOf", fn := fun _ => fun
  | [d1, d2] => { results := [.lit (.bool true)], args := [d1, d2] }
  | _ => none }
def fnExactGradsOfRow : OpenClaim := { program := "ytodlolhenghlcaa", sum := "fdaed62b6090ed11747f4114183630e60d372e60a830a1c5766798096429cba6", func := "loop.example/g00566/laws.FnExactGradsOf", spec := "fnExactGradsOf", apart := false }
def FnExactGradsOfSaid : Prop := fnExactGradsOfRow.holds Try.pinned (OpenSpec.ofChange fnExactGradsOfSpec)

/-- ITS FALSE NEIGHBOUR: 'it returns false'. Refute it at one input. -/
def fnExactGradsOfWrong : ChangeSpec := { name := "fnExactGradsOf", fn := fun _ => fun
  | [d1, d2] => { results := [.lit (.bool false)], args := [d1, d2] }
  | _ => none }
def FnExactGradsOfWrongFalsely : Prop := fnExactGradsOfRow.holds Try.pinned (OpenSpec.ofChange fnExactGradsOfWrong)

/- THE SECOND FORM. 'bulk': how many values and letters a reading holds, each counted each time it is reached (what is shared counts as often as it is met; a slice's spare places count too). A statement '..UptoSaid' is the law's where the arguments, and the package variables that the reading takes, are together of bulk at most 1048576: NARROWER than '..Said'. Prove '..Said' where nothing that the law and all that it calls make is longer than what came in: it says more and counts as full. Else prove '..UptoSaid'. A law counts once. -/
mutual
def uptoBulk {H : Type} : DataW H → Nat
  | .lit (.string bytes) => bytes.length + 1
  | .lit _ => 1
  | .nil => 1
  | .ptr d => uptoBulk d + 1
  | .slice elems spare => uptoBulkAll elems + uptoBulkAll spare + 1
  | .agg parts => uptoBulkAll parts + 1
  | .iface _ d => uptoBulk d + 1
  | .map entries => uptoBulkEntries entries + 1
  | .held _ => 1
def uptoBulkAll {H : Type} : List (DataW H) → Nat
  | [] => 0
  | d :: r => uptoBulk d + uptoBulkAll r
def uptoBulkEntries {H : Type} : List (Lit × DataW H) → Nat
  | [] => 0
  | x :: r => uptoBulkEntry x + uptoBulkEntries r
def uptoBulkEntry {H : Type} : Lit × DataW H → Nat
  | (.string bytes, d) => bytes.length + uptoBulk d + 1
  | (_, d) => uptoBulk d + 1
 end
def uptoSmall : (H : Type) → List (DataW H) → Bool := fun _ ds => decide (uptoBulkAll ds ≤ 1048576)
def OpenSpec.upto (s : _root_.Go.ChangeSpec) : _root_.Go.OpenSpec := { _root_.Go.OpenSpec.ofChange s with cond := some uptoSmall }

/-- 'laws.FnStillWrong', WHERE WHAT IT READS IS OF BULK AT MOST 1048576: true; the input reads as it did. -/
def fnStillWrongUptoRow : OpenClaim := { program := "ytodlolhenghlcaa", sum := "fdaed62b6090ed11747f4114183630e60d372e60a830a1c5766798096429cba6", func := "loop.example/g00566/laws.FnStillWrong", spec := "fnStillWrong", apart := false, narrowed := true }
def FnStillWrongUptoSaid : Prop := fnStillWrongUptoRow.holds Try.pinned (OpenSpec.upto fnStillWrongSpec)

/-- 'laws.FnExactConfOk', WHERE WHAT IT READS IS OF BULK AT MOST 1048576: true; the input reads as it did. -/
def fnExactConfOkUptoRow : OpenClaim := { program := "ytodlolhenghlcaa", sum := "fdaed62b6090ed11747f4114183630e60d372e60a830a1c5766798096429cba6", func := "loop.example/g00566/laws.FnExactConfOk", spec := "fnExactConfOk", apart := false, narrowed := true }
def FnExactConfOkUptoSaid : Prop := fnExactConfOkUptoRow.holds Try.pinned (OpenSpec.upto fnExactConfOkSpec)

/-- 'laws.FnExactBaseOf', WHERE WHAT IT READS IS OF BULK AT MOST 1048576: true; the input reads as it did. -/
def fnExactBaseOfUptoRow : OpenClaim := { program := "ytodlolhenghlcaa", sum := "fdaed62b6090ed11747f4114183630e60d372e60a830a1c5766798096429cba6", func := "loop.example/g00566/laws.FnExactBaseOf", spec := "fnExactBaseOf", apart := false, narrowed := true }
def FnExactBaseOfUptoSaid : Prop := fnExactBaseOfUptoRow.holds Try.pinned (OpenSpec.upto fnExactBaseOfSpec)

/-- 'laws.FnExactGradsOf', WHERE WHAT IT READS IS OF BULK AT MOST 1048576: true; the input reads as it did. -/
def fnExactGradsOfUptoRow : OpenClaim := { program := "ytodlolhenghlcaa", sum := "fdaed62b6090ed11747f4114183630e60d372e60a830a1c5766798096429cba6", func := "loop.example/g00566/laws.FnExactGradsOf", spec := "fnExactGradsOf", apart := false, narrowed := true }
def FnExactGradsOfUptoSaid : Prop := fnExactGradsOfUptoRow.holds Try.pinned (OpenSpec.upto fnExactGradsOfSpec)

end Rows
end Go.Proofs.Ytodlolhenghlcaa
