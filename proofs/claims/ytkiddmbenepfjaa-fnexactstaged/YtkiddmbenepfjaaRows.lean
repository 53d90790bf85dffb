/-
  No cell of these rows narrows 'for every input' (looked for: loops, veiled, ifaces, maps, wideKeys, modest, calm, conditions, laid).
  DERIVED. THE GIVEN ROWS OF THIS SEAT. 5 by the template 'for every input the law returns true; each argument reads behind the call as it read before'; 0 by the template 'total and deterministic' (their statements: YtkiddmbenepfjaaTotals.lean).
  GIVEN WITH THE SEED: the statements are not yours to turn. If you find one false, say at which input.
  Laid BY PROGRAM, IN A SANDBOX (cutbox-rows.mjs): the forced cells as the released guide's own fill.sh prints them over the translation b060a543f06499c4… (all of the seat's roots in one cut). By AI agents, Wed Nov 11 2026. No macro, syntax, notation, axiom, sorry.
-/
import Derived.Test.YtkiddmbenepfjaaChecked
import GoSem.Claim
import GoSem.ClaimJoined
import GoSem.ClaimMapViews
import Derived.JoinedTies
import Derived.KernelRfl
namespace Go.Proofs.Ytkiddmbenepfjaa
/- THE CELL 'sum', in the pinned program and in every row, IS THE sha256 OF THE DUMP (.gsa) THAT YtkiddmbenepfjaaProg.lean LOADS. Nothing in Lean hashes anything: it is a label: what it is worth is what the hold of that sum in a sandbox is worth. -/
noncomputable def Try.pinned : Pinned := { name := "ytkiddmbenepfjaa", sum := "b060a543f06499c4a4f146be44ce86c027a0c3df120a5a574ccf701bdc3c5520", checked := Try.checked }
namespace Rows
def none {H : Type} : Left H := { results := [], args := [] }

/-- 'laws.FnExactModelOk': WHATEVER THE INPUT: true; the input reads as it did. -/
def fnExactModelOkSpec : ChangeSpec := { name := "fnExactModelOk", fn := fun _ => fun
  | [d] => { results := [.lit (.bool true)], args := [d] }
  | _ => none }
def fnExactModelOkRow : OpenClaim := { program := "ytkiddmbenepfjaa", sum := "b060a543f06499c4a4f146be44ce86c027a0c3df120a5a574ccf701bdc3c5520", func := "loop.example/g00566/laws.FnExactModelOk", spec := "fnExactModelOk", apart := false }
def FnExactModelOkSaid : Prop := fnExactModelOkRow.holds Try.pinned (OpenSpec.ofChange fnExactModelOkSpec)

/-- ITS FALSE NEIGHBOUR: 'it returns false'. Refute it at one input. -/
def fnExactModelOkWrong : ChangeSpec := { name := "fnExactModelOk", fn := fun _ => fun
  | [d] => { results := [.lit (.bool false)], args := [d] }
  | _ => none }
def FnExactModelOkWrongFalsely : Prop := fnExactModelOkRow.holds Try.pinned (OpenSpec.ofChange fnExactModelOkWrong)

/-- 'laws.FnExactFeatures': WHATEVER THE INPUT: true; the input reads as it did. -/
def fnExactFeaturesSpec : ChangeSpec := { name := "fnExactFeatures", fn := fun _ => fun
  | [d1, d2] => { results := [.lit (.bool true)], args := [d1, d2] }
  | _ => none }
def fnExactFeaturesRow : OpenClaim := { program := "ytkiddmbenepfjaa", sum := "b060a543f06499c4a4f146be44ce86c027a0c3df120a5a574ccf701bdc3c5520", func := "loop.example/g00566/laws.FnExactFeatures", spec := "fnExactFeatures", apart := false }
def FnExactFeaturesSaid : Prop := fnExactFeaturesRow.holds Try.pinned (OpenSpec.ofChange fnExactFeaturesSpec)

/-- ITS FALSE NEIGHBOUR: 'it returns false'. Refute it at one input. -/
def fnExactFeaturesWrong : ChangeSpec := { name := "fnExactFeatures", fn := fun _ => fun
  | [d1, d2] => { results := [.lit (.bool false)], args := [d1, d2] }
  | _ => none }
def FnExactFeaturesWrongFalsely : Prop := fnExactFeaturesRow.holds Try.pinned (OpenSpec.ofChange fnExactFeaturesWrong)

/-- 'laws.FnExactPredict': WHATEVER THE INPUT: true; the input reads as it did. -/
def fnExactPredictSpec : ChangeSpec := { name := "fnExactPredict", fn := fun _ => fun
  | [d1, d2] => { results := [.lit (.bool true)], args := [d1, d2] }
  | _ => none }
def fnExactPredictRow : OpenClaim := { program := "ytkiddmbenepfjaa", sum := "b060a543f06499c4a4f146be44ce86c027a0c3df120a5a574ccf701bdc3c5520", func := "loop.example/g00566/laws.FnExactPredict", spec := "fnExactPredict", apart := false }
def FnExactPredictSaid : Prop := fnExactPredictRow.holds Try.pinned (OpenSpec.ofChange fnExactPredictSpec)

/-- ITS FALSE NEIGHBOUR: 'it returns false'. Refute it at one input. -/
def fnExactPredictWrong : ChangeSpec := { name := "fnExactPredict", fn := fun _ => fun
  | [d1, d2] => { results := [.lit (.bool false)], args := [d1, d2] }
  | _ => none }
def FnExactPredictWrongFalsely : Prop := fnExactPredictRow.holds Try.pinned (OpenSpec.ofChange fnExactPredictWrong)

/-- 'laws.FnExactStaged': WHATEVER THE INPUT: true; the input reads as it did. -/
def fnExactStagedSpec : ChangeSpec := { name := "fnExactStaged", fn := fun _ => fun
  | [d1, d2] => { results := [.lit (.bool true)], args := [d1, d2] }
  | _ => none }
def fnExactStagedRow : OpenClaim := { program := "ytkiddmbenepfjaa", sum := "b060a543f06499c4a4f146be44ce86c027a0c3df120a5a574ccf701bdc3c5520", func := "loop.example/g00566/laws.FnExactStaged", spec := "fnExactStaged", unfollowed := true, recurses := true, apart := false }
def FnExactStagedSaid : Prop := fnExactStagedRow.holds Try.pinned (OpenSpec.ofChange fnExactStagedSpec)

/-- ITS FALSE NEIGHBOUR: 'it returns false'. Refute it at one input. -/
def fnExactStagedWrong : ChangeSpec := { name := "fnExactStaged", fn := fun _ => fun
  | [d1, d2] => { results := [.lit (.bool false)], args := [d1, d2] }
  | _ => none }
def FnExactStagedWrongFalsely : Prop := fnExactStagedRow.holds Try.pinned (OpenSpec.ofChange fnExactStagedWrong)

/-- 'laws.FnExactImportance': WHATEVER THE INPUT: true; the input reads as it did. -/
def fnExactImportanceSpec : ChangeSpec := { name := "fnExactImportance", fn := fun _ => fun
  | [d] => { results := [.lit (.bool true)], args := [d] }
  | _ => none }
def fnExactImportanceRow : OpenClaim := { program := "ytkiddmbenepfjaa", sum := "b060a543f06499c4a4f146be44ce86c027a0c3df120a5a574ccf701bdc3c5520", func := "loop.example/g00566/laws.FnExactImportance", spec := "fnExactImportance", apart := false }
def FnExactImportanceSaid : Prop := fnExactImportanceRow.holds Try.pinned (OpenSpec.ofChange fnExactImportanceSpec)

/-- ITS FALSE NEIGHBOUR: 'it returns false'. Refute it at one input. -/
def fnExactImportanceWrong : ChangeSpec := { name := "fnExactImportance", fn := fun _ => fun
  | [d] => { results := [.lit (.bool false)], args := [d] }
  | _ => none }
def FnExactImportanceWrongFalsely : Prop := fnExactImportanceRow.holds Try.pinned (OpenSpec.ofChange fnExactImportanceWrong)

/- THE SECOND FORM. 'bulk': how many values and letters a reading holds, each counted each time it is reached (what is shared counts as often as it is met; a slice's spare places count too). A statement '..UptoSaid' is the law's where the arguments, and the package variables that the reading takes, are together of bulk at most 1048576: NARROWER than '..Said'. Prove '..Said' where nothing that the law and all that it calls make is longer than what came in: it says more and counts as full. Else prove '..UptoSaid'. A law counts once. -/
mutual
def uptoBulk {H : Type} : DataW H → Nat
  | .lit (.string bytes) => bytes.length + 1
  | .lit _ => 1
  | .nil => 1
  | .ptr d => uptoBulk d + 1
  | .slice elems spare => uptoBulkAll elems + uptoBulkAll spare + 1
  | .agg parts => uptoBulkAll parts + 1
  | .iface _ d => uptoBulk d + 1
  | .map entries => uptoBulkEntries entries + 1
  | .held _ => 1
def uptoBulkAll {H : Type} : List (DataW H) → Nat
  | [] => 0
  | d :: r => uptoBulk d + uptoBulkAll r
def uptoBulkEntries {H : Type} : List (Lit × DataW H) → Nat
  | [] => 0
  | x :: r => uptoBulkEntry x + uptoBulkEntries r
def uptoBulkEntry {H : Type} : Lit × DataW H → Nat
  | (.string bytes, d) => bytes.length + uptoBulk d + 1
  | (_, d) => uptoBulk d + 1
 end
def uptoSmall : (H : Type) → List (DataW H) → Bool := fun _ ds => decide (uptoBulkAll ds ≤ 1048576)
def OpenSpec.upto (s : _root_.Go.ChangeSpec) : _root_.Go.OpenSpec := { _root_.Go.OpenSpec.ofChange s with cond := some uptoSmall }

/-- 'laws.FnExactModelOk', WHERE WHAT IT READS IS OF BULK AT MOST 1048576: true; the input reads as it did. -/
def fnExactModelOkUptoRow : OpenClaim := { program := "ytkiddmbenepfjaa", sum := "b060a543f06499c4a4f146be44ce86c027a0c3df120a5a574ccf701bdc3c5520", func := "loop.example/g00566/laws.FnExactModelOk", spec := "fnExactModelOk", apart := false, narrowed := true }
def FnExactModelOkUptoSaid : Prop := fnExactModelOkUptoRow.holds Try.pinned (OpenSpec.upto fnExactModelOkSpec)

/-- 'laws.FnExactFeatures', WHERE WHAT IT READS IS OF BULK AT MOST 1048576: true; the input reads as it did. -/
def fnExactFeaturesUptoRow : OpenClaim := { program := "ytkiddmbenepfjaa", sum := "b060a543f06499c4a4f146be44ce86c027a0c3df120a5a574ccf701bdc3c5520", func := "loop.example/g00566/laws.FnExactFeatures", spec := "fnExactFeatures", apart := false, narrowed := true }
def FnExactFeaturesUptoSaid : Prop := fnExactFeaturesUptoRow.holds Try.pinned (OpenSpec.upto fnExactFeaturesSpec)

/-- 'laws.FnExactPredict', WHERE WHAT IT READS IS OF BULK AT MOST 1048576: true; the input reads as it did. -/
def fnExactPredictUptoRow : OpenClaim := { program := "ytkiddmbenepfjaa", sum := "b060a543f06499c4a4f146be44ce86c027a0c3df120a5a574ccf701bdc3c5520", func := "loop.example/g00566/laws.FnExactPredict", spec := "fnExactPredict", apart := false, narrowed := true }
def FnExactPredictUptoSaid : Prop := fnExactPredictUptoRow.holds Try.pinned (OpenSpec.upto fnExactPredictSpec)

/-- 'laws.FnExactStaged', WHERE WHAT IT READS IS OF BULK AT MOST 1048576: true; the input reads as it did. -/
def fnExactStagedUptoRow : OpenClaim := { program := "ytkiddmbenepfjaa", sum := "b060a543f06499c4a4f146be44ce86c027a0c3df120a5a574ccf701bdc3c5520", func := "loop.example/g00566/laws.FnExactStaged", spec := "fnExactStaged", unfollowed := true, recurses := true, apart := false, narrowed := true }
def FnExactStagedUptoSaid : Prop := fnExactStagedUptoRow.holds Try.pinned (OpenSpec.upto fnExactStagedSpec)

/-- 'laws.FnExactImportance', WHERE WHAT IT READS IS OF BULK AT MOST 1048576: true; the input reads as it did. -/
def fnExactImportanceUptoRow : OpenClaim := { program := "ytkiddmbenepfjaa", sum := "b060a543f06499c4a4f146be44ce86c027a0c3df120a5a574ccf701bdc3c5520", func := "loop.example/g00566/laws.FnExactImportance", spec := "fnExactImportance", apart := false, narrowed := true }
def FnExactImportanceUptoSaid : Prop := fnExactImportanceUptoRow.holds Try.pinned (OpenSpec.upto fnExactImportanceSpec)

end Rows
end Go.Proofs.Ytkiddmbenepfjaa
