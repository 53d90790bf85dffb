/-
  No cell of these rows narrows 'for every input' (looked for: loops, veiled, ifaces, maps, wideKeys, modest, calm, conditions, laid).
  DERIVED. THE GIVEN ROWS OF THIS SEAT. 6 by the template 'for every input the law returns true; each argument reads behind the call as it read before'; 0 by the template 'total and deterministic' (their statements: YthgjcplkladepaaTotals.lean).
  GIVEN WITH THE SEED: the statements are not yours to turn. If you find one false, say at which input.
  Laid BY PROGRAM, IN A SANDBOX (cutbox-rows.mjs): the forced cells as the released guide's own fill.sh prints them over the translation 72160ae525ade427… (all of the seat's roots in one cut). By AI agents, Wed Nov 11 2026. No macro, syntax, notation, axiom, sorry.
-/
import Derived.Test.YthgjcplkladepaaChecked
import GoSem.Claim
import GoSem.ClaimJoined
import GoSem.ClaimMapViews
import Derived.JoinedTies
import Derived.KernelRfl
namespace Go.Proofs.Ythgjcplkladepaa
/- THE CELL 'sum', in the pinned program and in every row, IS THE sha256 OF THE DUMP (.gsa) THAT YthgjcplkladepaaProg.lean LOADS. Nothing in Lean hashes anything: it is a label: what it is worth is what the hold of that sum in a sandbox is worth. -/
noncomputable def Try.pinned : Pinned := { name := "ythgjcplkladepaa", sum := "72160ae525ade427700a5bcb645e635b27ef12da5e8f6b8ee17c8edc1f73acab", checked := Try.checked }
namespace Rows
def none {H : Type} : Left H := { results := [], args := [] }

/-- 'laws.FnNoLeak': WHATEVER THE INPUT: true; the input reads as it did. -/
def fnNoLeakSpec : ChangeSpec := { name := "fnNoLeak", fn := fun _ => fun
  | [d1, d2] => { results := [.lit (.bool true)], args := [d1, d2] }
  | _ => none }
def fnNoLeakRow : OpenClaim := { program := "ythgjcplkladepaa", sum := "72160ae525ade427700a5bcb645e635b27ef12da5e8f6b8ee17c8edc1f73acab", func := "loop.example/g00566/laws.FnNoLeak", spec := "fnNoLeak", apart := false }
def FnNoLeakSaid : Prop := fnNoLeakRow.holds Try.pinned (OpenSpec.ofChange fnNoLeakSpec)

/-- ITS FALSE NEIGHBOUR: 'it returns false'. Refute it at one input. -/
def fnNoLeakWrong : ChangeSpec := { name := "fnNoLeak", fn := fun _ => fun
  | [d1, d2] => { results := [.lit (.bool false)], args := [d1, d2] }
  | _ => none }
def FnNoLeakWrongFalsely : Prop := fnNoLeakRow.holds Try.pinned (OpenSpec.ofChange fnNoLeakWrong)

/-- 'laws.FnServed': WHATEVER THE INPUT: true; the input reads as it did. -/
def fnServedSpec : ChangeSpec := { name := "fnServed", fn := fun _ => fun
  | [d] => { results := [.lit (.bool true)], args := [d] }
  | _ => none }
def fnServedRow : OpenClaim := { program := "ythgjcplkladepaa", sum := "72160ae525ade427700a5bcb645e635b27ef12da5e8f6b8ee17c8edc1f73acab", func := "loop.example/g00566/laws.FnServed", spec := "fnServed", apart := false }
def FnServedSaid : Prop := fnServedRow.holds Try.pinned (OpenSpec.ofChange fnServedSpec)

/-- ITS FALSE NEIGHBOUR: 'it returns false'. Refute it at one input. -/
def fnServedWrong : ChangeSpec := { name := "fnServed", fn := fun _ => fun
  | [d] => { results := [.lit (.bool false)], args := [d] }
  | _ => none }
def FnServedWrongFalsely : Prop := fnServedRow.holds Try.pinned (OpenSpec.ofChange fnServedWrong)

/-- 'laws.FnCtrEach': WHATEVER THE INPUT: true; the input reads as it did. -/
def fnCtrEachSpec : ChangeSpec := { name := "fnCtrEach", fn := fun _ => fun
  | [d] => { results := [.lit (.bool true)], args := [d] }
  | _ => none }
def fnCtrEachRow : OpenClaim := { program := "ythgjcplkladepaa", sum := "72160ae525ade427700a5bcb645e635b27ef12da5e8f6b8ee17c8edc1f73acab", func := "loop.example/g00566/laws.FnCtrEach", spec := "fnCtrEach", apart := false }
def FnCtrEachSaid : Prop := fnCtrEachRow.holds Try.pinned (OpenSpec.ofChange fnCtrEachSpec)

/-- ITS FALSE NEIGHBOUR: 'it returns false'. Refute it at one input. -/
def fnCtrEachWrong : ChangeSpec := { name := "fnCtrEach", fn := fun _ => fun
  | [d] => { results := [.lit (.bool false)], args := [d] }
  | _ => none }
def FnCtrEachWrongFalsely : Prop := fnCtrEachRow.holds Try.pinned (OpenSpec.ofChange fnCtrEachWrong)

/-- 'laws.FnExactCtrAt': WHATEVER THE INPUT: true; the input reads as it did. -/
def fnExactCtrAtSpec : ChangeSpec := { name := "fnExactCtrAt", fn := fun _ => fun
  | [d1, d2, d3, d4, d5] => { results := [.lit (.bool true)], args := [d1, d2, d3, d4, d5] }
  | _ => none }
def fnExactCtrAtRow : OpenClaim := { program := "ythgjcplkladepaa", sum := "72160ae525ade427700a5bcb645e635b27ef12da5e8f6b8ee17c8edc1f73acab", func := "loop.example/g00566/laws.FnExactCtrAt", spec := "fnExactCtrAt", apart := false }
def FnExactCtrAtSaid : Prop := fnExactCtrAtRow.holds Try.pinned (OpenSpec.ofChange fnExactCtrAtSpec)

/-- ITS FALSE NEIGHBOUR: 'it returns false'. Refute it at one input. -/
def fnExactCtrAtWrong : ChangeSpec := { name := "fnExactCtrAt", fn := fun _ => fun
  | [d1, d2, d3, d4, d5] => { results := [.lit (.bool false)], args := [d1, d2, d3, d4, d5] }
  | _ => none }
def FnExactCtrAtWrongFalsely : Prop := fnExactCtrAtRow.holds Try.pinned (OpenSpec.ofChange fnExactCtrAtWrong)

/-- 'laws.FnExactCtrAll': WHATEVER THE INPUT: true; the input reads as it did. -/
def fnExactCtrAllSpec : ChangeSpec := { name := "fnExactCtrAll", fn := fun _ => fun
  | [d1, d2, d3, d4] => { results := [.lit (.bool true)], args := [d1, d2, d3, d4] }
  | _ => none }
def fnExactCtrAllRow : OpenClaim := { program := "ythgjcplkladepaa", sum := "72160ae525ade427700a5bcb645e635b27ef12da5e8f6b8ee17c8edc1f73acab", func := "loop.example/g00566/laws.FnExactCtrAll", spec := "fnExactCtrAll", apart := false }
def FnExactCtrAllSaid : Prop := fnExactCtrAllRow.holds Try.pinned (OpenSpec.ofChange fnExactCtrAllSpec)

/-- ITS FALSE NEIGHBOUR: 'it returns false'. Refute it at one input. -/
def fnExactCtrAllWrong : ChangeSpec := { name := "fnExactCtrAll", fn := fun _ => fun
  | [d1, d2, d3, d4] => { results := [.lit (.bool false)], args := [d1, d2, d3, d4] }
  | _ => none }
def FnExactCtrAllWrongFalsely : Prop := fnExactCtrAllRow.holds Try.pinned (OpenSpec.ofChange fnExactCtrAllWrong)

/-- 'laws.FnExactCtrOf': WHATEVER THE INPUT: true; the input reads as it did. -/
def fnExactCtrOfSpec : ChangeSpec := { name := "fnExactCtrOf", fn := fun _ => fun
  | [d1, d2, d3, d4] => { results := [.lit (.bool true)], args := [d1, d2, d3, d4] }
  | _ => none }
def fnExactCtrOfRow : OpenClaim := { program := "ythgjcplkladepaa", sum := "72160ae525ade427700a5bcb645e635b27ef12da5e8f6b8ee17c8edc1f73acab", func := "loop.example/g00566/laws.FnExactCtrOf", spec := "fnExactCtrOf", apart := false }
def FnExactCtrOfSaid : Prop := fnExactCtrOfRow.holds Try.pinned (OpenSpec.ofChange fnExactCtrOfSpec)

/-- ITS FALSE NEIGHBOUR: 'it returns false'. Refute it at one input. -/
def fnExactCtrOfWrong : ChangeSpec := { name := "fnExactCtrOf", fn := fun _ => fun
  | [d1, d2, d3, d4] => { results := [.lit (.bool false)], args := [d1, d2, d3, d4] }
  | _ => none }
def FnExactCtrOfWrongFalsely : Prop := fnExactCtrOfRow.holds Try.pinned (OpenSpec.ofChange fnExactCtrOfWrong)

/- THE SECOND FORM. 'bulk': how many values and letters a reading holds, each counted each time it is reached (what is shared counts as often as it is met; a slice's spare places count too). A statement '..UptoSaid' is the law's where the arguments, and the package variables that the reading takes, are together of bulk at most 1048576: NARROWER than '..Said'. Prove '..Said' where nothing that the law and all that it calls make is longer than what came in: it says more and counts as full. Else prove '..UptoSaid'. A law counts once. -/
mutual
def uptoBulk {H : Type} : DataW H → Nat
  | .lit (.string bytes) => bytes.length + 1
  | .lit _ => 1
  | .nil => 1
  | .ptr d => uptoBulk d + 1
  | .slice elems spare => uptoBulkAll elems + uptoBulkAll spare + 1
  | .agg parts => uptoBulkAll parts + 1
  | .iface _ d => uptoBulk d + 1
  | .map entries => uptoBulkEntries entries + 1
  | .held _ => 1
def uptoBulkAll {H : Type} : List (DataW H) → Nat
  | [] => 0
  | d :: r => uptoBulk d + uptoBulkAll r
def uptoBulkEntries {H : Type} : List (Lit × DataW H) → Nat
  | [] => 0
  | x :: r => uptoBulkEntry x + uptoBulkEntries r
def uptoBulkEntry {H : Type} : Lit × DataW H → Nat
  | (.string bytes, d) => bytes.length + uptoBulk d + 1
  | (_, d) => uptoBulk d + 1
 end
def uptoSmall : (H : Type) → List (DataW H) → Bool := fun _ ds => decide (uptoBulkAll ds ≤ 1048576)
def OpenSpec.upto (s : _root_.Go.ChangeSpec) : _root_.Go.OpenSpec := { _root_.Go.OpenSpec.ofChange s with cond := some uptoSmall }

/-- 'laws.FnNoLeak', WHERE WHAT IT READS IS OF BULK AT MOST 1048576: true; the input reads as it did. -/
def fnNoLeakUptoRow : OpenClaim := { program := "ythgjcplkladepaa", sum := "72160ae525ade427700a5bcb645e635b27ef12da5e8f6b8ee17c8edc1f73acab", func := "loop.example/g00566/laws.FnNoLeak", spec := "fnNoLeak", apart := false, narrowed := true }
def FnNoLeakUptoSaid : Prop := fnNoLeakUptoRow.holds Try.pinned (OpenSpec.upto fnNoLeakSpec)

/-- 'laws.FnServed', WHERE WHAT IT READS IS OF BULK AT MOST 1048576: true; the input reads as it did. -/
def fnServedUptoRow : OpenClaim := { program := "ythgjcplkladepaa", sum := "72160ae525ade427700a5bcb645e635b27ef12da5e8f6b8ee17c8edc1f73acab", func := "loop.example/g00566/laws.FnServed", spec := "fnServed", apart := false, narrowed := true }
def FnServedUptoSaid : Prop := fnServedUptoRow.holds Try.pinned (OpenSpec.upto fnServedSpec)

/-- 'laws.FnCtrEach', WHERE WHAT IT READS IS OF BULK AT MOST 1048576: true; the input reads as it did. -/
def fnCtrEachUptoRow : OpenClaim := { program := "ythgjcplkladepaa", sum := "72160ae525ade427700a5bcb645e635b27ef12da5e8f6b8ee17c8edc1f73acab", func := "loop.example/g00566/laws.FnCtrEach", spec := "fnCtrEach", apart := false, narrowed := true }
def FnCtrEachUptoSaid : Prop := fnCtrEachUptoRow.holds Try.pinned (OpenSpec.upto fnCtrEachSpec)

/-- 'laws.FnExactCtrAt', WHERE WHAT IT READS IS OF BULK AT MOST 1048576: true; the input reads as it did. -/
def fnExactCtrAtUptoRow : OpenClaim := { program := "ythgjcplkladepaa", sum := "72160ae525ade427700a5bcb645e635b27ef12da5e8f6b8ee17c8edc1f73acab", func := "loop.example/g00566/laws.FnExactCtrAt", spec := "fnExactCtrAt", apart := false, narrowed := true }
def FnExactCtrAtUptoSaid : Prop := fnExactCtrAtUptoRow.holds Try.pinned (OpenSpec.upto fnExactCtrAtSpec)

/-- 'laws.FnExactCtrAll', WHERE WHAT IT READS IS OF BULK AT MOST 1048576: true; the input reads as it did. -/
def fnExactCtrAllUptoRow : OpenClaim := { program := "ythgjcplkladepaa", sum := "72160ae525ade427700a5bcb645e635b27ef12da5e8f6b8ee17c8edc1f73acab", func := "loop.example/g00566/laws.FnExactCtrAll", spec := "fnExactCtrAll", apart := false, narrowed := true }
def FnExactCtrAllUptoSaid : Prop := fnExactCtrAllUptoRow.holds Try.pinned (OpenSpec.upto fnExactCtrAllSpec)

/-- 'laws.FnExactCtrOf', WHERE WHAT IT READS IS OF BULK AT MOST 1048576: true; the input reads as it did. -/
def fnExactCtrOfUptoRow : OpenClaim := { program := "ythgjcplkladepaa", sum := "72160ae525ade427700a5bcb645e635b27ef12da5e8f6b8ee17c8edc1f73acab", func := "loop.example/g00566/laws.FnExactCtrOf", spec := "fnExactCtrOf", apart := false, narrowed := true }
def FnExactCtrOfUptoSaid : Prop := fnExactCtrOfUptoRow.holds Try.pinned (OpenSpec.upto fnExactCtrOfSpec)

end Rows
end Go.Proofs.Ythgjcplkladepaa
