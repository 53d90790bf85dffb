/-
  The arguments of the laws over tables, opened: a schema, a row, a table that came in, out of what the row's reader read of them.
-/
import Derived.Test.YtkiddmbenepfjaaTab
import Derived.Test.YtkiddmbenepfjaaOpnS
import Derived.ProofKit
import Derived.ChangeSame
import Derived.Deep.Strs
import Derived.Deep.Slices
namespace Go.Proofs.Ytkiddmbenepfjaa.Op
open Go.ChangeShapes Go.WideShapes Go.Deep Go.RowKit
open Go.Proofs.Ytkiddmbenepfjaa.Tb
set_option maxRecDepth 10000

section
variable {H : Type} {enc : TypeId × Value → H} {W : World}
theorem schema_cells {n : Nat} {cs : List Value} {x : DataW H × List MemPlace} (h : DataW.trod enc Try.prog W 0 (fun _ => true) true n 23 cs = some x) :
    ∃ i j : Int, cs = [.int .i64 i, .int .i64 j] ∧ (-9223372036854775808 ≤ i ∧ i ≤ 9223372036854775807) ∧ (-9223372036854775808 ≤ j ∧ j ≤ 9223372036854775807) := by
  obtain ⟨y0, y1, m, _, hl, h0, h1⟩ := trod_struct2 Try.underlying23 h
  rw [show Try.prog.cellsOf 23 = 2 by kernel_rfl] at hl
  rw [show Try.prog.cellsOf 3 = 1 by kernel_rfl] at h0 h1
  match cs, hl with
  | [a, b], _ =>
    obtain ⟨i, rfl, hi⟩ := int_cell (by simpa using h0)
    obtain ⟨j, rfl, hj⟩ := int_cell (by simpa using h1)
    exact ⟨i, j, rfl, hi, hj⟩
theorem schema_open {base : Nat} {v : Value} {d : DataW H} {p : List MemPlace} (hv : Value.okWide Try.prog W .any base 23 v) (h : DataW.Trod enc Try.prog W 0 (fun _ => true) true 23 v d p) :
    ∃ i j : Int, v = .agg #[.int .i64 i, .int .i64 j] ∧ (-9223372036854775808 ≤ i ∧ i ≤ 9223372036854775807) ∧ (-9223372036854775808 ≤ j ∧ j ≤ 9223372036854775807) := by
  obtain ⟨cs, rfl, hc⟩ := okWide_struct Try.underlying23 hv
  rw [show Try.prog.cellsOf 23 = 2 by kernel_rfl] at hc
  obtain ⟨a, b, rfl⟩ := agg2 hc
  obtain ⟨n, hn⟩ := h
  obtain ⟨i, j, e, hi, hj⟩ := schema_cells hn
  simp [Value.cells] at e
  obtain ⟨rfl, rfl⟩ := e
  exact ⟨i, j, rfl, hi, hj⟩
theorem sample_cells {n : Nat} {cs : List Value} {x : DataW H × List MemPlace} (h : DataW.trod enc Try.prog W 0 (fun _ => true) true n 41 cs = some x) :
    ∃ v0 v1 v2 r, cs = [v0, v1, v2] ∧ RowIs W v0 v1 v2 r ∧ r.fits ∧ (-9223372036854775808 ≤ r.label ∧ r.label ≤ 9223372036854775807) := by
  obtain ⟨y0, y1, y2, m, _, hl, h0, h1, h2⟩ := trod_struct3 Try.underlying41 h
  rw [show Try.prog.cellsOf 41 = 3 by kernel_rfl] at hl
  rw [show Try.prog.cellsOf 38 = 1 by kernel_rfl] at h0
  rw [show Try.prog.cellsOf 39 = 1 by kernel_rfl] at h1
  rw [show Try.prog.cellsOf 3 = 1 by kernel_rfl] at h2
  match cs, hl with
  | [a, b, c], _ =>
    obtain ⟨a0, xs, c0, rfl, i0, b0⟩ := ints_cell (by simpa using h0)
    obtain ⟨a1, ss, c1, rfl, i1, b1, hf⟩ := strs_cell (by simpa using h1)
    obtain ⟨l, rfl, hl⟩ := int_cell (by simpa using h2)
    unfold maxLen at b0 b1
    exact ⟨_, _, _, ⟨xs, ss, l⟩, rfl, ⟨a0, c0, a1, c1, rfl, rfl, rfl, i0, i1⟩, ⟨by simp only; omega, by simp only; omega, hf⟩, hl⟩
theorem sample_open {base : Nat} {v : Value} {d : DataW H} {p : List MemPlace} (hv : Value.okWide Try.prog W .any base 41 v) (h : DataW.Trod enc Try.prog W 0 (fun _ => true) true 41 v d p) :
    ∃ v0 v1 v2 r, v = .agg #[v0, v1, v2] ∧ RowIs W v0 v1 v2 r ∧ r.fits ∧ (-9223372036854775808 ≤ r.label ∧ r.label ≤ 9223372036854775807) := by
  obtain ⟨cs, rfl, hc⟩ := okWide_struct Try.underlying41 hv
  rw [show Try.prog.cellsOf 41 = 3 by kernel_rfl] at hc
  obtain ⟨a, b, c, rfl⟩ := agg3 hc
  obtain ⟨n, hn⟩ := h
  obtain ⟨v0, v1, v2, r, e, hr, hf, hl⟩ := sample_cells hn
  simp [Value.cells] at e
  obtain ⟨rfl, rfl, rfl⟩ := e
  exact ⟨_, _, _, r, rfl, hr, hf, hl⟩
end
end Go.Proofs.Ytkiddmbenepfjaa.Op
