/-
  No cell of these rows narrows 'for every input' (looked for: loops, veiled, ifaces, maps, wideKeys, modest, calm, conditions, laid).
  DERIVED. THE GIVEN ROWS OF THIS SEAT. 6 by the template 'for every input the law returns true; each argument reads behind the call as it read before'; 0 by the template 'total and deterministic' (their statements: YtjkoldcojagiiaaTotals.lean).
  GIVEN WITH THE SEED: the statements are not yours to turn. If you find one false, say at which input.
  Laid BY PROGRAM, IN A SANDBOX (cutbox-rows.mjs): the forced cells as the released guide's own fill.sh prints them over the translation 76cf3128c4421942… (all of the seat's roots in one cut). By AI agents, Wed Nov 11 2026. No macro, syntax, notation, axiom, sorry.
-/
import Derived.Test.YtjkoldcojagiiaaChecked
import GoSem.Claim
import GoSem.ClaimJoined
import GoSem.ClaimMapViews
import Derived.JoinedTies
import Derived.KernelRfl
namespace Go.Proofs.Ytjkoldcojagiiaa
/- THE CELL 'sum', in the pinned program and in every row, IS THE sha256 OF THE DUMP (.gsa) THAT YtjkoldcojagiiaaProg.lean LOADS. Nothing in Lean hashes anything: it is a label: what it is worth is what the hold of that sum in a sandbox is worth. -/
noncomputable def Try.pinned : Pinned := { name := "ytjkoldcojagiiaa", sum := "76cf3128c4421942f3e79b8e1c543082c81f58f3e237ee245a20005f9ebb7578", checked := Try.checked }
namespace Rows
def none {H : Type} : Left H := { results := [], args := [] }

/-- 'laws.FnNoLeak': WHATEVER THE INPUT: true; the input reads as it did. -/
def fnNoLeakSpec : ChangeSpec := { name := "fnNoLeak", fn := fun _ => fun
  | [d1, d2] => { results := [.lit (.bool true)], args := [d1, d2] }
  | _ => none }
def fnNoLeakRow : OpenClaim := { program := "ytjkoldcojagiiaa", sum := "76cf3128c4421942f3e79b8e1c543082c81f58f3e237ee245a20005f9ebb7578", func := "loop.example/g00566/laws.FnNoLeak", spec := "fnNoLeak", apart := false }
def FnNoLeakSaid : Prop := fnNoLeakRow.holds Try.pinned (OpenSpec.ofChange fnNoLeakSpec)

/-- ITS FALSE NEIGHBOUR: 'it returns false'. Refute it at one input. -/
def fnNoLeakWrong : ChangeSpec := { name := "fnNoLeak", fn := fun _ => fun
  | [d1, d2] => { results := [.lit (.bool false)], args := [d1, d2] }
  | _ => none }
def FnNoLeakWrongFalsely : Prop := fnNoLeakRow.holds Try.pinned (OpenSpec.ofChange fnNoLeakWrong)

/-- 'laws.FnDicts': WHATEVER THE INPUT: true; the input reads as it did. -/
def fnDictsSpec : ChangeSpec := { name := "fnDicts", fn := fun _ => fun
  | [d] => { results := [.lit (.bool true)], args := [d] }
  | _ => none }
def fnDictsRow : OpenClaim := { program := "ytjkoldcojagiiaa", sum := "76cf3128c4421942f3e79b8e1c543082c81f58f3e237ee245a20005f9ebb7578", func := "loop.example/g00566/laws.FnDicts", spec := "fnDicts", apart := false }
def FnDictsSaid : Prop := fnDictsRow.holds Try.pinned (OpenSpec.ofChange fnDictsSpec)

/-- ITS FALSE NEIGHBOUR: 'it returns false'. Refute it at one input. -/
def fnDictsWrong : ChangeSpec := { name := "fnDicts", fn := fun _ => fun
  | [d] => { results := [.lit (.bool false)], args := [d] }
  | _ => none }
def FnDictsWrongFalsely : Prop := fnDictsRow.holds Try.pinned (OpenSpec.ofChange fnDictsWrong)

/-- 'laws.FnServed': WHATEVER THE INPUT: true; the input reads as it did. -/
def fnServedSpec : ChangeSpec := { name := "fnServed", fn := fun _ => fun
  | [d] => { results := [.lit (.bool true)], args := [d] }
  | _ => none }
def fnServedRow : OpenClaim := { program := "ytjkoldcojagiiaa", sum := "76cf3128c4421942f3e79b8e1c543082c81f58f3e237ee245a20005f9ebb7578", func := "loop.example/g00566/laws.FnServed", spec := "fnServed", apart := false }
def FnServedSaid : Prop := fnServedRow.holds Try.pinned (OpenSpec.ofChange fnServedSpec)

/-- ITS FALSE NEIGHBOUR: 'it returns false'. Refute it at one input. -/
def fnServedWrong : ChangeSpec := { name := "fnServed", fn := fun _ => fun
  | [d] => { results := [.lit (.bool false)], args := [d] }
  | _ => none }
def FnServedWrongFalsely : Prop := fnServedRow.holds Try.pinned (OpenSpec.ofChange fnServedWrong)

/-- 'laws.FnCtrEach': WHATEVER THE INPUT: true; the input reads as it did. -/
def fnCtrEachSpec : ChangeSpec := { name := "fnCtrEach", fn := fun _ => fun
  | [d] => { results := [.lit (.bool true)], args := [d] }
  | _ => none }
def fnCtrEachRow : OpenClaim := { program := "ytjkoldcojagiiaa", sum := "76cf3128c4421942f3e79b8e1c543082c81f58f3e237ee245a20005f9ebb7578", func := "loop.example/g00566/laws.FnCtrEach", spec := "fnCtrEach", apart := false }
def FnCtrEachSaid : Prop := fnCtrEachRow.holds Try.pinned (OpenSpec.ofChange fnCtrEachSpec)

/-- ITS FALSE NEIGHBOUR: 'it returns false'. Refute it at one input. -/
def fnCtrEachWrong : ChangeSpec := { name := "fnCtrEach", fn := fun _ => fun
  | [d] => { results := [.lit (.bool false)], args := [d] }
  | _ => none }
def FnCtrEachWrongFalsely : Prop := fnCtrEachRow.holds Try.pinned (OpenSpec.ofChange fnCtrEachWrong)

/-- 'laws.FnExactDictOf': WHATEVER THE INPUT: true; the input reads as it did. -/
def fnExactDictOfSpec : ChangeSpec := { name := "fnExactDictOf", fn := fun _ => fun
  | [d] => { results := [.lit (.bool true)], args := [d] }
  | _ => none }
def fnExactDictOfRow : OpenClaim := { program := "ytjkoldcojagiiaa", sum := "76cf3128c4421942f3e79b8e1c543082c81f58f3e237ee245a20005f9ebb7578", func := "loop.example/g00566/laws.FnExactDictOf", spec := "fnExactDictOf", apart := false }
def FnExactDictOfSaid : Prop := fnExactDictOfRow.holds Try.pinned (OpenSpec.ofChange fnExactDictOfSpec)

/-- ITS FALSE NEIGHBOUR: 'it returns false'. Refute it at one input. -/
def fnExactDictOfWrong : ChangeSpec := { name := "fnExactDictOf", fn := fun _ => fun
  | [d] => { results := [.lit (.bool false)], args := [d] }
  | _ => none }
def FnExactDictOfWrongFalsely : Prop := fnExactDictOfRow.holds Try.pinned (OpenSpec.ofChange fnExactDictOfWrong)

/-- 'laws.FnExactIdOf': WHATEVER THE INPUT: true; the input reads as it did. -/
def fnExactIdOfSpec : ChangeSpec := { name := "fnExactIdOf", fn := fun _ => fun
  | [d1, d2] => { results := [.lit (.bool true)], args := [d1, d2] }
  | _ => none }
def fnExactIdOfRow : OpenClaim := { program := "ytjkoldcojagiiaa", sum := "76cf3128c4421942f3e79b8e1c543082c81f58f3e237ee245a20005f9ebb7578", func := "loop.example/g00566/laws.FnExactIdOf", spec := "fnExactIdOf", apart := false }
def FnExactIdOfSaid : Prop := fnExactIdOfRow.holds Try.pinned (OpenSpec.ofChange fnExactIdOfSpec)

/-- ITS FALSE NEIGHBOUR: 'it returns false'. Refute it at one input. -/
def fnExactIdOfWrong : ChangeSpec := { name := "fnExactIdOf", fn := fun _ => fun
  | [d1, d2] => { results := [.lit (.bool false)], args := [d1, d2] }
  | _ => none }
def FnExactIdOfWrongFalsely : Prop := fnExactIdOfRow.holds Try.pinned (OpenSpec.ofChange fnExactIdOfWrong)

/- THE SECOND FORM. 'bulk': how many values and letters a reading holds, each counted each time it is reached (what is shared counts as often as it is met; a slice's spare places count too). A statement '..UptoSaid' is the law's where the arguments, and the package variables that the reading takes, are together of bulk at most 1048576: NARROWER than '..Said'. Prove '..Said' where nothing that the law and all that it calls make is longer than what came in: it says more and counts as full. Else prove '..UptoSaid'. A law counts once. -/
mutual
def uptoBulk {H : Type} : DataW H → Nat
  | .lit (.string bytes) => bytes.length + 1
  | .lit _ => 1
  | .nil => 1
  | .ptr d => uptoBulk d + 1
  | .slice elems spare => uptoBulkAll elems + uptoBulkAll spare + 1
  | .agg parts => uptoBulkAll parts + 1
  | .iface _ d => uptoBulk d + 1
  | .map entries => uptoBulkEntries entries + 1
  | .held _ => 1
def uptoBulkAll {H : Type} : List (DataW H) → Nat
  | [] => 0
  | d :: r => uptoBulk d + uptoBulkAll r
def uptoBulkEntries {H : Type} : List (Lit × DataW H) → Nat
  | [] => 0
  | x :: r => uptoBulkEntry x + uptoBulkEntries r
def uptoBulkEntry {H : Type} : Lit × DataW H → Nat
  | (.string bytes, d) => bytes.length + uptoBulk d + 1
  | (_, d) => uptoBulk d + 1
 end
def uptoSmall : (H : Type) → List (DataW H) → Bool := fun _ ds => decide (uptoBulkAll ds ≤ 1048576)
def OpenSpec.upto (s : _root_.Go.ChangeSpec) : _root_.Go.OpenSpec := { _root_.Go.OpenSpec.ofChange s with cond := some uptoSmall }

/-- 'laws.FnNoLeak', WHERE WHAT IT READS IS OF BULK AT MOST 1048576: true; the input reads as it did. -/
def fnNoLeakUptoRow : OpenClaim := { program := "ytjkoldcojagiiaa", sum := "76cf3128c4421942f3e79b8e1c543082c81f58f3e237ee245a20005f9ebb7578", func := "loop.example/g00566/laws.FnNoLeak", spec := "fnNoLeak", apart := false, narrowed := true }
def FnNoLeakUptoSaid : Prop := fnNoLeakUptoRow.holds Try.pinned (OpenSpec.upto fnNoLeakSpec)

/-- 'laws.FnDicts', WHERE WHAT IT READS IS OF BULK AT MOST 1048576: true; the input reads as it did. -/
def fnDictsUptoRow : OpenClaim := { program := "ytjkoldcojagiiaa", sum := "76cf3128c4421942f3e79b8e1c543082c81f58f3e237ee245a20005f9ebb7578", func := "loop.example/g00566/laws.FnDicts", spec := "fnDicts", apart := false, narrowed := true }
def FnDictsUptoSaid : Prop := fnDictsUptoRow.holds Try.pinned (OpenSpec.upto fnDictsSpec)

/-- 'laws.FnServed', WHERE WHAT IT READS IS OF BULK AT MOST 1048576: true; the input reads as it did. -/
def fnServedUptoRow : OpenClaim := { program := "ytjkoldcojagiiaa", sum := "76cf3128c4421942f3e79b8e1c543082c81f58f3e237ee245a20005f9ebb7578", func := "loop.example/g00566/laws.FnServed", spec := "fnServed", apart := false, narrowed := true }
def FnServedUptoSaid : Prop := fnServedUptoRow.holds Try.pinned (OpenSpec.upto fnServedSpec)

/-- 'laws.FnCtrEach', WHERE WHAT IT READS IS OF BULK AT MOST 1048576: true; the input reads as it did. -/
def fnCtrEachUptoRow : OpenClaim := { program := "ytjkoldcojagiiaa", sum := "76cf3128c4421942f3e79b8e1c543082c81f58f3e237ee245a20005f9ebb7578", func := "loop.example/g00566/laws.FnCtrEach", spec := "fnCtrEach", apart := false, narrowed := true }
def FnCtrEachUptoSaid : Prop := fnCtrEachUptoRow.holds Try.pinned (OpenSpec.upto fnCtrEachSpec)

/-- 'laws.FnExactDictOf', WHERE WHAT IT READS IS OF BULK AT MOST 1048576: true; the input reads as it did. -/
def fnExactDictOfUptoRow : OpenClaim := { program := "ytjkoldcojagiiaa", sum := "76cf3128c4421942f3e79b8e1c543082c81f58f3e237ee245a20005f9ebb7578", func := "loop.example/g00566/laws.FnExactDictOf", spec := "fnExactDictOf", apart := false, narrowed := true }
def FnExactDictOfUptoSaid : Prop := fnExactDictOfUptoRow.holds Try.pinned (OpenSpec.upto fnExactDictOfSpec)

/-- 'laws.FnExactIdOf', WHERE WHAT IT READS IS OF BULK AT MOST 1048576: true; the input reads as it did. -/
def fnExactIdOfUptoRow : OpenClaim := { program := "ytjkoldcojagiiaa", sum := "76cf3128c4421942f3e79b8e1c543082c81f58f3e237ee245a20005f9ebb7578", func := "loop.example/g00566/laws.FnExactIdOf", spec := "fnExactIdOf", apart := false, narrowed := true }
def FnExactIdOfUptoSaid : Prop := fnExactIdOfUptoRow.holds Try.pinned (OpenSpec.upto fnExactIdOfSpec)

end Rows
end Go.Proofs.Ytjkoldcojagiiaa
