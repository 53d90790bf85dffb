/-
  No cell of these rows narrows 'for every input' (looked for: loops, veiled, ifaces, maps, wideKeys, modest, calm, conditions, laid).
  DERIVED. THE GIVEN ROWS OF THIS SEAT. 4 by the template 'for every input the law returns true; each argument reads behind the call as it read before'; 0 by the template 'total and deterministic' (their statements: YtjkmajfnpcdklaaTotals.lean).
  GIVEN WITH THE SEED: the statements are not yours to turn. If you find one false, say at which input.
  Laid BY PROGRAM, IN A SANDBOX (cutbox-rows.mjs): the forced cells as the released guide's own fill.sh prints them over the translation 199ec4d37ea14bcf… (all of the seat's roots in one cut). By AI agents, Wed Nov 11 2026. No macro, syntax, notation, axiom, sorry.
-/
import Derived.Test.YtjkmajfnpcdklaaChecked
import GoSem.Claim
import GoSem.ClaimJoined
import GoSem.ClaimMapViews
import Derived.JoinedTies
import Derived.KernelRfl
namespace Go.Proofs.Ytjkmajfnpcdklaa
/- THE CELL 'sum', in the pinned program and in every row, IS THE sha256 OF THE DUMP (.gsa) THAT YtjkmajfnpcdklaaProg.lean LOADS. Nothing in Lean hashes anything: it is a label: what it is worth is what the hold of that sum in a sandbox is worth. -/
noncomputable def Try.pinned : Pinned := { name := "ytjkmajfnpcdklaa", sum := "199ec4d37ea14bcfde7fe6951a72a481224e408102aee37702b0eca19c95c103", checked := Try.checked }
namespace Rows
def none {H : Type} : Left H := { results := [], args := [] }

/-- 'laws.FnBinsRise': WHATEVER THE INPUT: true; the input reads as it did. -/
def fnBinsRiseSpec : ChangeSpec := { name := "fnBinsRise", fn := fun _ => fun
  | [d1, d2] => { results := [.lit (.bool true)], args := [d1, d2] }
  | _ => none }
def fnBinsRiseRow : OpenClaim := { program := "ytjkmajfnpcdklaa", sum := "199ec4d37ea14bcfde7fe6951a72a481224e408102aee37702b0eca19c95c103", func := "loop.example/g00566/laws.FnBinsRise", spec := "fnBinsRise", apart := false }
def FnBinsRiseSaid : Prop := fnBinsRiseRow.holds Try.pinned (OpenSpec.ofChange fnBinsRiseSpec)

/-- ITS FALSE NEIGHBOUR: 'it returns false'. Refute it at one input. -/
def fnBinsRiseWrong : ChangeSpec := { name := "fnBinsRise", fn := fun _ => fun
  | [d1, d2] => { results := [.lit (.bool false)], args := [d1, d2] }
  | _ => none }
def FnBinsRiseWrongFalsely : Prop := fnBinsRiseRow.holds Try.pinned (OpenSpec.ofChange fnBinsRiseWrong)

/-- 'laws.FnExactBordersOk': WHATEVER THE INPUT: true; the input reads as it did. -/
def fnExactBordersOkSpec : ChangeSpec := { name := "fnExactBordersOk", fn := fun _ => fun
  | [d] => { results := [.lit (.bool true)], args := [d] }
  | _ => none }
def fnExactBordersOkRow : OpenClaim := { program := "ytjkmajfnpcdklaa", sum := "199ec4d37ea14bcfde7fe6951a72a481224e408102aee37702b0eca19c95c103", func := "loop.example/g00566/laws.FnExactBordersOk", spec := "fnExactBordersOk", apart := false }
def FnExactBordersOkSaid : Prop := fnExactBordersOkRow.holds Try.pinned (OpenSpec.ofChange fnExactBordersOkSpec)

/-- ITS FALSE NEIGHBOUR: 'it returns false'. Refute it at one input. -/
def fnExactBordersOkWrong : ChangeSpec := { name := "fnExactBordersOk", fn := fun _ => fun
  | [d] => { results := [.lit (.bool false)], args := [d] }
  | _ => none }
def FnExactBordersOkWrongFalsely : Prop := fnExactBordersOkRow.holds Try.pinned (OpenSpec.ofChange fnExactBordersOkWrong)

/-- 'laws.FnExactBinOf': WHATEVER THE INPUT: true; the input reads as it did. -/
def fnExactBinOfSpec : ChangeSpec := { name := "fnExactBinOf", fn := fun _ => fun
  | [d1, d2] => { results := [.lit (.bool true)], args := [d1, d2] }
  | _ => none }
def fnExactBinOfRow : OpenClaim := { program := "ytjkmajfnpcdklaa", sum := "199ec4d37ea14bcfde7fe6951a72a481224e408102aee37702b0eca19c95c103", func := "loop.example/g00566/laws.FnExactBinOf", spec := "fnExactBinOf", apart := false }
def FnExactBinOfSaid : Prop := fnExactBinOfRow.holds Try.pinned (OpenSpec.ofChange fnExactBinOfSpec)

/-- ITS FALSE NEIGHBOUR: 'it returns false'. Refute it at one input. -/
def fnExactBinOfWrong : ChangeSpec := { name := "fnExactBinOf", fn := fun _ => fun
  | [d1, d2] => { results := [.lit (.bool false)], args := [d1, d2] }
  | _ => none }
def FnExactBinOfWrongFalsely : Prop := fnExactBinOfRow.holds Try.pinned (OpenSpec.ofChange fnExactBinOfWrong)

/-- 'laws.FnExactBinsOf': WHATEVER THE INPUT: true; the input reads as it did. -/
def fnExactBinsOfSpec : ChangeSpec := { name := "fnExactBinsOf", fn := fun _ => fun
  | [d1, d2] => { results := [.lit (.bool true)], args := [d1, d2] }
  | _ => none }
def fnExactBinsOfRow : OpenClaim := { program := "ytjkmajfnpcdklaa", sum := "199ec4d37ea14bcfde7fe6951a72a481224e408102aee37702b0eca19c95c103", func := "loop.example/g00566/laws.FnExactBinsOf", spec := "fnExactBinsOf", apart := false }
def FnExactBinsOfSaid : Prop := fnExactBinsOfRow.holds Try.pinned (OpenSpec.ofChange fnExactBinsOfSpec)

/-- ITS FALSE NEIGHBOUR: 'it returns false'. Refute it at one input. -/
def fnExactBinsOfWrong : ChangeSpec := { name := "fnExactBinsOf", fn := fun _ => fun
  | [d1, d2] => { results := [.lit (.bool false)], args := [d1, d2] }
  | _ => none }
def FnExactBinsOfWrongFalsely : Prop := fnExactBinsOfRow.holds Try.pinned (OpenSpec.ofChange fnExactBinsOfWrong)

/- THE SECOND FORM. 'bulk': how many values and letters a reading holds, each counted each time it is reached (what is shared counts as often as it is met; a slice's spare places count too). A statement '..UptoSaid' is the law's where the arguments, and the package variables that the reading takes, are together of bulk at most 1048576: NARROWER than '..Said'. Prove '..Said' where nothing that the law and all that it calls make is longer than what came in: it says more and counts as full. Else prove '..UptoSaid'. A law counts once. -/
mutual
def uptoBulk {H : Type} : DataW H → Nat
  | .lit (.string bytes) => bytes.length + 1
  | .lit _ => 1
  | .nil => 1
  | .ptr d => uptoBulk d + 1
  | .slice elems spare => uptoBulkAll elems + uptoBulkAll spare + 1
  | .agg parts => uptoBulkAll parts + 1
  | .iface _ d => uptoBulk d + 1
  | .map entries => uptoBulkEntries entries + 1
  | .held _ => 1
def uptoBulkAll {H : Type} : List (DataW H) → Nat
  | [] => 0
  | d :: r => uptoBulk d + uptoBulkAll r
def uptoBulkEntries {H : Type} : List (Lit × DataW H) → Nat
  | [] => 0
  | x :: r => uptoBulkEntry x + uptoBulkEntries r
def uptoBulkEntry {H : Type} : Lit × DataW H → Nat
  | (.string bytes, d) => bytes.length + uptoBulk d + 1
  | (_, d) => uptoBulk d + 1
 end
def uptoSmall : (H : Type) → List (DataW H) → Bool := fun _ ds => decide (uptoBulkAll ds ≤ 1048576)
def OpenSpec.upto (s : _root_.Go.ChangeSpec) : _root_.Go.OpenSpec := { _root_.Go.OpenSpec.ofChange s with cond := some uptoSmall }

/-- 'laws.FnBinsRise', WHERE WHAT IT READS IS OF BULK AT MOST 1048576: true; the input reads as it did. -/
def fnBinsRiseUptoRow : OpenClaim := { program := "ytjkmajfnpcdklaa", sum := "199ec4d37ea14bcfde7fe6951a72a481224e408102aee37702b0eca19c95c103", func := "loop.example/g00566/laws.FnBinsRise", spec := "fnBinsRise", apart := false, narrowed := true }
def FnBinsRiseUptoSaid : Prop := fnBinsRiseUptoRow.holds Try.pinned (OpenSpec.upto fnBinsRiseSpec)

/-- 'laws.FnExactBordersOk', WHERE WHAT IT READS IS OF BULK AT MOST 1048576: true; the input reads as it did. -/
def fnExactBordersOkUptoRow : OpenClaim := { program := "ytjkmajfnpcdklaa", sum := "199ec4d37ea14bcfde7fe6951a72a481224e408102aee37702b0eca19c95c103", func := "loop.example/g00566/laws.FnExactBordersOk", spec := "fnExactBordersOk", apart := false, narrowed := true }
def FnExactBordersOkUptoSaid : Prop := fnExactBordersOkUptoRow.holds Try.pinned (OpenSpec.upto fnExactBordersOkSpec)

/-- 'laws.FnExactBinOf', WHERE WHAT IT READS IS OF BULK AT MOST 1048576: true; the input reads as it did. -/
def fnExactBinOfUptoRow : OpenClaim := { program := "ytjkmajfnpcdklaa", sum := "199ec4d37ea14bcfde7fe6951a72a481224e408102aee37702b0eca19c95c103", func := "loop.example/g00566/laws.FnExactBinOf", spec := "fnExactBinOf", apart := false, narrowed := true }
def FnExactBinOfUptoSaid : Prop := fnExactBinOfUptoRow.holds Try.pinned (OpenSpec.upto fnExactBinOfSpec)

/-- 'laws.FnExactBinsOf', WHERE WHAT IT READS IS OF BULK AT MOST 1048576: true; the input reads as it did. -/
def fnExactBinsOfUptoRow : OpenClaim := { program := "ytjkmajfnpcdklaa", sum := "199ec4d37ea14bcfde7fe6951a72a481224e408102aee37702b0eca19c95c103", func := "loop.example/g00566/laws.FnExactBinsOf", spec := "fnExactBinsOf", apart := false, narrowed := true }
def FnExactBinsOfUptoSaid : Prop := fnExactBinsOfUptoRow.holds Try.pinned (OpenSpec.upto fnExactBinsOfSpec)

end Rows
end Go.Proofs.Ytjkmajfnpcdklaa
