/-
  Small laws for the walks over tables: frames behind a draw; a row of the call's own; a box of two cells.
-/
import Derived.Test.YtkiddmbenepfjaaTabRow
import Derived.Deep.DeepMust
namespace Go.Proofs.Ytkiddmbenepfjaa.Tk
set_option maxRecDepth 20000
open Go.RowKit
open Go.Proofs.Ytkiddmbenepfjaa.Tb
/-- A draw turns nothing in memory. -/
theorem undrew {w w1 : World} (h : Below w.drew.heap.size w.drew w1) : Below w.heap.size w w1 := ⟨h.os, h.tape, h.output, h.size, h.block⟩
theorem rowIs_own {w : World} {B : Nat} {u0 u1 : Value} {r : Row} (o0 : Li.Own w B u0 r.nums) (o1 : Ls.Own w B u1 r.cats) : RowIs w u0 u1 (.int .i64 r.label) r := by
  obtain ⟨a0, q0, e0, i0⟩ := o0.isl
  obtain ⟨a1, q1, e1, i1⟩ := o1.iss
  exact ⟨a0, q0, a1, q1, e0, e1, rfl, i0, i1⟩
end Go.Proofs.Ytkiddmbenepfjaa.Tk
