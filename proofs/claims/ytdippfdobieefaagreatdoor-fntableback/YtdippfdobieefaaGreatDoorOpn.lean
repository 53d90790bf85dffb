/-
  The arguments of the laws over tables, opened: a schema, a row, a table that came in, out of what the row's reader read of them.
-/
import Derived.Test.YtdippfdobieefaaGreatDoorTab
import Derived.Test.YtdippfdobieefaaGreatDoorOpnS
import Derived.ProofKit
import Derived.ChangeSame
import Derived.Deep.Strs
import Derived.Deep.Slices
namespace Go.Proofs.YtdippfdobieefaaGreatDoor.Op
open Go.ChangeShapes Go.WideShapes Go.Deep Go.RowKit
open Go.Proofs.YtdippfdobieefaaGreatDoor.Tb
set_option maxRecDepth 10000

section
variable {H : Type} {enc : TypeId × Value → H} {W : World}
theorem schema_cells {n : Nat} {cs : List Value} {x : DataW H × List MemPlace} (h : DataW.trod enc Tryz.prog W 0 (fun _ => true) true n 39 cs = some x) :
    ∃ i j : Int, cs = [.int .i64 i, .int .i64 j] ∧ (-9223372036854775808 ≤ i ∧ i ≤ 9223372036854775807) ∧ (-9223372036854775808 ≤ j ∧ j ≤ 9223372036854775807) := by
  obtain ⟨y0, y1, m, _, hl, h0, h1⟩ := trod_struct2 Tryz.underlying39 h
  rw [show Tryz.prog.cellsOf 39 = 2 by kernel_rfl] at hl
  rw [show Tryz.prog.cellsOf 3 = 1 by kernel_rfl] at h0 h1
  match cs, hl with
  | [a, b], _ =>
    obtain ⟨i, rfl, hi⟩ := int_cell (by simpa using h0)
    obtain ⟨j, rfl, hj⟩ := int_cell (by simpa using h1)
    exact ⟨i, j, rfl, hi, hj⟩
theorem schema_open {base : Nat} {v : Value} {d : DataW H} {p : List MemPlace} (hv : Value.okWide Tryz.prog W .any base 39 v) (h : DataW.Trod enc Tryz.prog W 0 (fun _ => true) true 39 v d p) :
    ∃ i j : Int, v = .agg #[.int .i64 i, .int .i64 j] ∧ (-9223372036854775808 ≤ i ∧ i ≤ 9223372036854775807) ∧ (-9223372036854775808 ≤ j ∧ j ≤ 9223372036854775807) := by
  obtain ⟨cs, rfl, hc⟩ := okWide_struct Tryz.underlying39 hv
  rw [show Tryz.prog.cellsOf 39 = 2 by kernel_rfl] at hc
  obtain ⟨a, b, rfl⟩ := agg2 hc
  obtain ⟨n, hn⟩ := h
  obtain ⟨i, j, e, hi, hj⟩ := schema_cells hn
  simp [Value.cells] at e
  obtain ⟨rfl, rfl⟩ := e
  exact ⟨i, j, rfl, hi, hj⟩
end
end Go.Proofs.YtdippfdobieefaaGreatDoor.Op
