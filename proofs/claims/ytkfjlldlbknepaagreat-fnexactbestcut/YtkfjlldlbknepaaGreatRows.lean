/-
  No cell of these rows narrows 'for every input' (looked for: loops, veiled, ifaces, maps, wideKeys, modest, calm, conditions, laid).
  DERIVED. THE GIVEN ROWS OF THIS SEAT. 3 by the template 'for every input the law returns true; each argument reads behind the call as it read before'; 0 by the template 'total and deterministic' (their statements: YtkfjlldlbknepaaGreatTotals.lean).
  GIVEN WITH THE SEED: the statements are not yours to turn. If you find one false, say at which input.
  Laid BY PROGRAM, IN A SANDBOX (cutbox-rows.mjs): the forced cells as the released guide's own fill.sh prints them over the translation f4a84f93d78d7692… (all of the seat's roots in one cut). By AI agents, Wed Nov 11 2026. No macro, syntax, notation, axiom, sorry.
-/
import Derived.Test.YtkfjlldlbknepaaGreatChecked
import GoSem.Claim
import GoSem.ClaimJoined
import GoSem.ClaimMapViews
import Derived.JoinedTies
import Derived.KernelRfl
namespace Go.Proofs.YtkfjlldlbknepaaGreat
/- THE CELL 'sum', in the pinned program and in every row, IS THE sha256 OF THE DUMP (.gsa) THAT YtkfjlldlbknepaaGreatProg.lean LOADS. Nothing in Lean hashes anything: it is a label: what it is worth is what the hold of that sum in a sandbox is worth. -/
noncomputable def Tryz.pinned : Pinned := { name := "ytkfjlldlbknepaagreat", sum := "f4a84f93d78d7692f03364b28b047738f660a48dedd9164768065e59e9cdb33f", checked := Tryz.checked }
namespace Rows
def none {H : Type} : Left H := { results := [], args := [] }

/-- 'laws.FnExactOffOf': WHATEVER THE INPUT: true; the input reads as it did. -/
def fnExactOffOfSpec : ChangeSpec := { name := "fnExactOffOf", fn := fun _ => fun
  | [d1, d2] => { results := [.lit (.bool true)], args := [d1, d2] }
  | _ => none }
def fnExactOffOfRow : OpenClaim := { program := "ytkfjlldlbknepaagreat", sum := "f4a84f93d78d7692f03364b28b047738f660a48dedd9164768065e59e9cdb33f", func := "loop.example/g00566/laws.FnExactOffOf", spec := "fnExactOffOf", apart := false }
def FnExactOffOfSaid : Prop := fnExactOffOfRow.holds Tryz.pinned (OpenSpec.ofChange fnExactOffOfSpec)

/-- ITS FALSE NEIGHBOUR: 'it returns false'. Refute it at one input. -/
def fnExactOffOfWrong : ChangeSpec := { name := "fnExactOffOf", fn := fun _ => fun
  | [d1, d2] => { results := [.lit (.bool false)], args := [d1, d2] }
  | _ => none }
def FnExactOffOfWrongFalsely : Prop := fnExactOffOfRow.holds Tryz.pinned (OpenSpec.ofChange fnExactOffOfWrong)

/-- 'laws.FnExactOffStages': WHATEVER THE INPUT: true; the input reads as it did. -/
def fnExactOffStagesSpec : ChangeSpec := { name := "fnExactOffStages", fn := fun _ => fun
  | [d1, d2] => { results := [.lit (.bool true)], args := [d1, d2] }
  | _ => none }
def fnExactOffStagesRow : OpenClaim := { program := "ytkfjlldlbknepaagreat", sum := "f4a84f93d78d7692f03364b28b047738f660a48dedd9164768065e59e9cdb33f", func := "loop.example/g00566/laws.FnExactOffStages", spec := "fnExactOffStages", apart := false }
def FnExactOffStagesSaid : Prop := fnExactOffStagesRow.holds Tryz.pinned (OpenSpec.ofChange fnExactOffStagesSpec)

/-- ITS FALSE NEIGHBOUR: 'it returns false'. Refute it at one input. -/
def fnExactOffStagesWrong : ChangeSpec := { name := "fnExactOffStages", fn := fun _ => fun
  | [d1, d2] => { results := [.lit (.bool false)], args := [d1, d2] }
  | _ => none }
def FnExactOffStagesWrongFalsely : Prop := fnExactOffStagesRow.holds Tryz.pinned (OpenSpec.ofChange fnExactOffStagesWrong)

/-- 'laws.FnExactBestCut': WHATEVER THE INPUT: true; the input reads as it did. -/
def fnExactBestCutSpec : ChangeSpec := { name := "fnExactBestCut", fn := fun _ => fun
  | [d1, d2] => { results := [.lit (.bool true)], args := [d1, d2] }
  | _ => none }
def fnExactBestCutRow : OpenClaim := { program := "ytkfjlldlbknepaagreat", sum := "f4a84f93d78d7692f03364b28b047738f660a48dedd9164768065e59e9cdb33f", func := "loop.example/g00566/laws.FnExactBestCut", spec := "fnExactBestCut", apart := false }
def FnExactBestCutSaid : Prop := fnExactBestCutRow.holds Tryz.pinned (OpenSpec.ofChange fnExactBestCutSpec)

/-- ITS FALSE NEIGHBOUR: 'it returns false'. Refute it at one input. -/
def fnExactBestCutWrong : ChangeSpec := { name := "fnExactBestCut", fn := fun _ => fun
  | [d1, d2] => { results := [.lit (.bool false)], args := [d1, d2] }
  | _ => none }
def FnExactBestCutWrongFalsely : Prop := fnExactBestCutRow.holds Tryz.pinned (OpenSpec.ofChange fnExactBestCutWrong)

/- THE SECOND FORM. 'bulk': how many values and letters a reading holds, each counted each time it is reached (what is shared counts as often as it is met; a slice's spare places count too). A statement '..UptoSaid' is the law's where the arguments, and the package variables that the reading takes, are together of bulk at most 1048576: NARROWER than '..Said'. Prove '..Said' where nothing that the law and all that it calls make is longer than what came in: it says more and counts as full. Else prove '..UptoSaid'. A law counts once. -/
mutual
def uptoBulk {H : Type} : DataW H → Nat
  | .lit (.string bytes) => bytes.length + 1
  | .lit _ => 1
  | .nil => 1
  | .ptr d => uptoBulk d + 1
  | .slice elems spare => uptoBulkAll elems + uptoBulkAll spare + 1
  | .agg parts => uptoBulkAll parts + 1
  | .iface _ d => uptoBulk d + 1
  | .map entries => uptoBulkEntries entries + 1
  | .held _ => 1
def uptoBulkAll {H : Type} : List (DataW H) → Nat
  | [] => 0
  | d :: r => uptoBulk d + uptoBulkAll r
def uptoBulkEntries {H : Type} : List (Lit × DataW H) → Nat
  | [] => 0
  | x :: r => uptoBulkEntry x + uptoBulkEntries r
def uptoBulkEntry {H : Type} : Lit × DataW H → Nat
  | (.string bytes, d) => bytes.length + uptoBulk d + 1
  | (_, d) => uptoBulk d + 1
 end
def uptoSmall : (H : Type) → List (DataW H) → Bool := fun _ ds => decide (uptoBulkAll ds ≤ 1048576)
def OpenSpec.upto (s : _root_.Go.ChangeSpec) : _root_.Go.OpenSpec := { _root_.Go.OpenSpec.ofChange s with cond := some uptoSmall }

/-- 'laws.FnExactOffOf', WHERE WHAT IT READS IS OF BULK AT MOST 1048576: true; the input reads as it did. -/
def fnExactOffOfUptoRow : OpenClaim := { program := "ytkfjlldlbknepaagreat", sum := "f4a84f93d78d7692f03364b28b047738f660a48dedd9164768065e59e9cdb33f", func := "loop.example/g00566/laws.FnExactOffOf", spec := "fnExactOffOf", apart := false, narrowed := true }
def FnExactOffOfUptoSaid : Prop := fnExactOffOfUptoRow.holds Tryz.pinned (OpenSpec.upto fnExactOffOfSpec)

/-- 'laws.FnExactOffStages', WHERE WHAT IT READS IS OF BULK AT MOST 1048576: true; the input reads as it did. -/
def fnExactOffStagesUptoRow : OpenClaim := { program := "ytkfjlldlbknepaagreat", sum := "f4a84f93d78d7692f03364b28b047738f660a48dedd9164768065e59e9cdb33f", func := "loop.example/g00566/laws.FnExactOffStages", spec := "fnExactOffStages", apart := false, narrowed := true }
def FnExactOffStagesUptoSaid : Prop := fnExactOffStagesUptoRow.holds Tryz.pinned (OpenSpec.upto fnExactOffStagesSpec)

/-- 'laws.FnExactBestCut', WHERE WHAT IT READS IS OF BULK AT MOST 1048576: true; the input reads as it did. -/
def fnExactBestCutUptoRow : OpenClaim := { program := "ytkfjlldlbknepaagreat", sum := "f4a84f93d78d7692f03364b28b047738f660a48dedd9164768065e59e9cdb33f", func := "loop.example/g00566/laws.FnExactBestCut", spec := "fnExactBestCut", apart := false, narrowed := true }
def FnExactBestCutUptoSaid : Prop := fnExactBestCutUptoRow.holds Tryz.pinned (OpenSpec.upto fnExactBestCutSpec)

end Rows
end Go.Proofs.YtkfjlldlbknepaaGreat
