/-
  No cell of these rows narrows 'for every input' (looked for: loops, veiled, ifaces, maps, wideKeys, modest, calm, conditions, laid).
  DERIVED. THE GIVEN ROWS OF THIS SEAT. 4 by the template 'for every input the law returns true; each argument reads behind the call as it read before'; 0 by the template 'total and deterministic' (their statements: YtdcbcacgppffgaaTotals.lean).
  GIVEN WITH THE SEED: the statements are not yours to turn. If you find one false, say at which input.
  Laid BY PROGRAM, IN A SANDBOX (cutbox-rows.mjs): the forced cells as the released guide's own fill.sh prints them over the translation bfa37858d3c6fdce… (all of the seat's roots in one cut). By AI agents, Wed Nov 11 2026. No macro, syntax, notation, axiom, sorry.
-/
import Derived.Test.YtdcbcacgppffgaaChecked
import GoSem.Claim
import GoSem.ClaimJoined
import GoSem.ClaimMapViews
import Derived.JoinedTies
import Derived.KernelRfl
namespace Go.Proofs.Ytdcbcacgppffgaa
/- THE CELL 'sum', in the pinned program and in every row, IS THE sha256 OF THE DUMP (.gsa) THAT YtdcbcacgppffgaaProg.lean LOADS. Nothing in Lean hashes anything: it is a label: what it is worth is what the hold of that sum in a sandbox is worth. -/
noncomputable def Try.pinned : Pinned := { name := "ytdcbcacgppffgaa", sum := "bfa37858d3c6fdcea3fb22f6d1d93c0d07a907820c3470f6f7514c5cbd13b7fe", checked := Try.checked }
namespace Rows
def none {H : Type} : Left H := { results := [], args := [] }

/-- 'laws.FnOffs': WHATEVER THE INPUT: true; the input reads as it did. -/
def fnOffsSpec : ChangeSpec := { name := "fnOffs", fn := fun _ => fun
  | [d1, d2] => { results := [.lit (.bool true)], args := [d1, d2] }
  | _ => none }
def fnOffsRow : OpenClaim := { program := "ytdcbcacgppffgaa", sum := "bfa37858d3c6fdcea3fb22f6d1d93c0d07a907820c3470f6f7514c5cbd13b7fe", func := "loop.example/g00566/laws.FnOffs", spec := "fnOffs", apart := false }
def FnOffsSaid : Prop := fnOffsRow.holds Try.pinned (OpenSpec.ofChange fnOffsSpec)

/-- ITS FALSE NEIGHBOUR: 'it returns false'. Refute it at one input. -/
def fnOffsWrong : ChangeSpec := { name := "fnOffs", fn := fun _ => fun
  | [d1, d2] => { results := [.lit (.bool false)], args := [d1, d2] }
  | _ => none }
def FnOffsWrongFalsely : Prop := fnOffsRow.holds Try.pinned (OpenSpec.ofChange fnOffsWrong)

/-- 'laws.FnFolds': WHATEVER THE INPUT: true; the input reads as it did. -/
def fnFoldsSpec : ChangeSpec := { name := "fnFolds", fn := fun _ => fun
  | [d] => { results := [.lit (.bool true)], args := [d] }
  | _ => none }
def fnFoldsRow : OpenClaim := { program := "ytdcbcacgppffgaa", sum := "bfa37858d3c6fdcea3fb22f6d1d93c0d07a907820c3470f6f7514c5cbd13b7fe", func := "loop.example/g00566/laws.FnFolds", spec := "fnFolds", apart := false }
def FnFoldsSaid : Prop := fnFoldsRow.holds Try.pinned (OpenSpec.ofChange fnFoldsSpec)

/-- ITS FALSE NEIGHBOUR: 'it returns false'. Refute it at one input. -/
def fnFoldsWrong : ChangeSpec := { name := "fnFolds", fn := fun _ => fun
  | [d] => { results := [.lit (.bool false)], args := [d] }
  | _ => none }
def FnFoldsWrongFalsely : Prop := fnFoldsRow.holds Try.pinned (OpenSpec.ofChange fnFoldsWrong)

/-- 'laws.FnExactOff': WHATEVER THE INPUT: true; the input reads as it did. -/
def fnExactOffSpec : ChangeSpec := { name := "fnExactOff", fn := fun _ => fun
  | [d1, d2] => { results := [.lit (.bool true)], args := [d1, d2] }
  | _ => none }
def fnExactOffRow : OpenClaim := { program := "ytdcbcacgppffgaa", sum := "bfa37858d3c6fdcea3fb22f6d1d93c0d07a907820c3470f6f7514c5cbd13b7fe", func := "loop.example/g00566/laws.FnExactOff", spec := "fnExactOff", apart := false }
def FnExactOffSaid : Prop := fnExactOffRow.holds Try.pinned (OpenSpec.ofChange fnExactOffSpec)

/-- ITS FALSE NEIGHBOUR: 'it returns false'. Refute it at one input. -/
def fnExactOffWrong : ChangeSpec := { name := "fnExactOff", fn := fun _ => fun
  | [d1, d2] => { results := [.lit (.bool false)], args := [d1, d2] }
  | _ => none }
def FnExactOffWrongFalsely : Prop := fnExactOffRow.holds Try.pinned (OpenSpec.ofChange fnExactOffWrong)

/-- 'laws.FnExactFolds': WHATEVER THE INPUT: true; the input reads as it did. -/
def fnExactFoldsSpec : ChangeSpec := { name := "fnExactFolds", fn := fun _ => fun
  | [d1, d2] => { results := [.lit (.bool true)], args := [d1, d2] }
  | _ => none }
def fnExactFoldsRow : OpenClaim := { program := "ytdcbcacgppffgaa", sum := "bfa37858d3c6fdcea3fb22f6d1d93c0d07a907820c3470f6f7514c5cbd13b7fe", func := "loop.example/g00566/laws.FnExactFolds", spec := "fnExactFolds", apart := false }
def FnExactFoldsSaid : Prop := fnExactFoldsRow.holds Try.pinned (OpenSpec.ofChange fnExactFoldsSpec)

/-- ITS FALSE NEIGHBOUR: 'it returns false'. Refute it at one input. -/
def fnExactFoldsWrong : ChangeSpec := { name := "fnExactFolds", fn := fun _ => fun
  | [d1, d2] => { results := [.lit (.bool false)], args := [d1, d2] }
  | _ => none }
def FnExactFoldsWrongFalsely : Prop := fnExactFoldsRow.holds Try.pinned (OpenSpec.ofChange fnExactFoldsWrong)

/- THE SECOND FORM. 'bulk': how many values and letters a reading holds, each counted each time it is reached (what is shared counts as often as it is met; a slice's spare places count too). A statement '..UptoSaid' is the law's where the arguments, and the package variables that the reading takes, are together of bulk at most 1048576: NARROWER than '..Said'. Prove '..Said' where nothing that the law and all that it calls make is longer than what came in: it says more and counts as full. Else prove '..UptoSaid'. A law counts once. -/
mutual
def uptoBulk {H : Type} : DataW H → Nat
  | .lit (.string bytes) => bytes.length + 1
  | .lit _ => 1
  | .nil => 1
  | .ptr d => uptoBulk d + 1
  | .slice elems spare => uptoBulkAll elems + uptoBulkAll spare + 1
  | .agg parts => uptoBulkAll parts + 1
  | .iface _ d => uptoBulk d + 1
  | .map entries => uptoBulkEntries entries + 1
  | .held _ => 1
def uptoBulkAll {H : Type} : List (DataW H) → Nat
  | [] => 0
  | d :: r => uptoBulk d + uptoBulkAll r
def uptoBulkEntries {H : Type} : List (Lit × DataW H) → Nat
  | [] => 0
  | x :: r => uptoBulkEntry x + uptoBulkEntries r
def uptoBulkEntry {H : Type} : Lit × DataW H → Nat
  | (.string bytes, d) => bytes.length + uptoBulk d + 1
  | (_, d) => uptoBulk d + 1
 end
def uptoSmall : (H : Type) → List (DataW H) → Bool := fun _ ds => decide (uptoBulkAll ds ≤ 1048576)
def OpenSpec.upto (s : _root_.Go.ChangeSpec) : _root_.Go.OpenSpec := { _root_.Go.OpenSpec.ofChange s with cond := some uptoSmall }

/-- 'laws.FnOffs', WHERE WHAT IT READS IS OF BULK AT MOST 1048576: true; the input reads as it did. -/
def fnOffsUptoRow : OpenClaim := { program := "ytdcbcacgppffgaa", sum := "bfa37858d3c6fdcea3fb22f6d1d93c0d07a907820c3470f6f7514c5cbd13b7fe", func := "loop.example/g00566/laws.FnOffs", spec := "fnOffs", apart := false, narrowed := true }
def FnOffsUptoSaid : Prop := fnOffsUptoRow.holds Try.pinned (OpenSpec.upto fnOffsSpec)

/-- 'laws.FnFolds', WHERE WHAT IT READS IS OF BULK AT MOST 1048576: true; the input reads as it did. -/
def fnFoldsUptoRow : OpenClaim := { program := "ytdcbcacgppffgaa", sum := "bfa37858d3c6fdcea3fb22f6d1d93c0d07a907820c3470f6f7514c5cbd13b7fe", func := "loop.example/g00566/laws.FnFolds", spec := "fnFolds", apart := false, narrowed := true }
def FnFoldsUptoSaid : Prop := fnFoldsUptoRow.holds Try.pinned (OpenSpec.upto fnFoldsSpec)

/-- 'laws.FnExactOff', WHERE WHAT IT READS IS OF BULK AT MOST 1048576: true; the input reads as it did. -/
def fnExactOffUptoRow : OpenClaim := { program := "ytdcbcacgppffgaa", sum := "bfa37858d3c6fdcea3fb22f6d1d93c0d07a907820c3470f6f7514c5cbd13b7fe", func := "loop.example/g00566/laws.FnExactOff", spec := "fnExactOff", apart := false, narrowed := true }
def FnExactOffUptoSaid : Prop := fnExactOffUptoRow.holds Try.pinned (OpenSpec.upto fnExactOffSpec)

/-- 'laws.FnExactFolds', WHERE WHAT IT READS IS OF BULK AT MOST 1048576: true; the input reads as it did. -/
def fnExactFoldsUptoRow : OpenClaim := { program := "ytdcbcacgppffgaa", sum := "bfa37858d3c6fdcea3fb22f6d1d93c0d07a907820c3470f6f7514c5cbd13b7fe", func := "loop.example/g00566/laws.FnExactFolds", spec := "fnExactFolds", apart := false, narrowed := true }
def FnExactFoldsUptoSaid : Prop := fnExactFoldsUptoRow.holds Try.pinned (OpenSpec.upto fnExactFoldsSpec)

end Rows
end Go.Proofs.Ytdcbcacgppffgaa
