/-
  The arguments of the laws over tables, opened: a schema, a row, a table that came in, out of what the row's reader read of them.
-/
import Derived.Test.YtkiddmbenepfjaaGreatTab
import Derived.Test.YtkiddmbenepfjaaGreatOpnS
import Derived.ProofKit
import Derived.ChangeSame
import Derived.Deep.Strs
import Derived.Deep.Slices
namespace Go.Proofs.YtkiddmbenepfjaaGreat.Op
open Go.ChangeShapes Go.WideShapes Go.Deep Go.RowKit
open Go.Proofs.YtkiddmbenepfjaaGreat.Tb
set_option maxRecDepth 10000

section
variable {H : Type} {enc : TypeId × Value → H} {W : World}
theorem schema_cells {n : Nat} {cs : List Value} {x : DataW H × List MemPlace} (h : DataW.trod enc Tryz.prog W 0 (fun _ => true) true n 23 cs = some x) :
    ∃ i j : Int, cs = [.int .i64 i, .int .i64 j] ∧ (-9223372036854775808 ≤ i ∧ i ≤ 9223372036854775807) ∧ (-9223372036854775808 ≤ j ∧ j ≤ 9223372036854775807) := by
  obtain ⟨y0, y1, m, _, hl, h0, h1⟩ := trod_struct2 Tryz.underlying23 h
  rw [show Tryz.prog.cellsOf 23 = 2 by kernel_rfl] at hl
  rw [show Tryz.prog.cellsOf 3 = 1 by kernel_rfl] at h0 h1
  match cs, hl with
  | [a, b], _ =>
    obtain ⟨i, rfl, hi⟩ := int_cell (by simpa using h0)
    obtain ⟨j, rfl, hj⟩ := int_cell (by simpa using h1)
    exact ⟨i, j, rfl, hi, hj⟩
theorem schema_open {base : Nat} {v : Value} {d : DataW H} {p : List MemPlace} (hv : Value.okWide Tryz.prog W .any base 23 v) (h : DataW.Trod enc Tryz.prog W 0 (fun _ => true) true 23 v d p) :
    ∃ i j : Int, v = .agg #[.int .i64 i, .int .i64 j] ∧ (-9223372036854775808 ≤ i ∧ i ≤ 9223372036854775807) ∧ (-9223372036854775808 ≤ j ∧ j ≤ 9223372036854775807) := by
  obtain ⟨cs, rfl, hc⟩ := okWide_struct Tryz.underlying23 hv
  rw [show Tryz.prog.cellsOf 23 = 2 by kernel_rfl] at hc
  obtain ⟨a, b, rfl⟩ := agg2 hc
  obtain ⟨n, hn⟩ := h
  obtain ⟨i, j, e, hi, hj⟩ := schema_cells hn
  simp [Value.cells] at e
  obtain ⟨rfl, rfl⟩ := e
  exact ⟨i, j, rfl, hi, hj⟩
theorem sample_cells {n : Nat} {cs : List Value} {x : DataW H × List MemPlace} (h : DataW.trod enc Tryz.prog W 0 (fun _ => true) true n 84 cs = some x) :
    ∃ v0 v1 v2 r, cs = [v0, v1, v2] ∧ RowIs W v0 v1 v2 r ∧ r.fits ∧ (-9223372036854775808 ≤ r.label ∧ r.label ≤ 9223372036854775807) := by
  obtain ⟨y0, y1, y2, m, _, hl, h0, h1, h2⟩ := trod_struct3 Tryz.underlying84 h
  rw [show Tryz.prog.cellsOf 84 = 3 by kernel_rfl] at hl
  rw [show Tryz.prog.cellsOf 33 = 1 by kernel_rfl] at h0
  rw [show Tryz.prog.cellsOf 60 = 1 by kernel_rfl] at h1
  rw [show Tryz.prog.cellsOf 3 = 1 by kernel_rfl] at h2
  match cs, hl with
  | [a, b, c], _ =>
    obtain ⟨a0, xs, c0, rfl, i0, b0⟩ := ints_cell (by simpa using h0)
    obtain ⟨a1, ss, c1, rfl, i1, b1, hf⟩ := strs_cell (by simpa using h1)
    obtain ⟨l, rfl, hl⟩ := int_cell (by simpa using h2)
    unfold maxLen at b0 b1
    exact ⟨_, _, _, ⟨xs, ss, l⟩, rfl, ⟨a0, c0, a1, c1, rfl, rfl, rfl, i0, i1⟩, ⟨by simp only; omega, by simp only; omega, hf⟩, hl⟩
theorem sample_open {base : Nat} {v : Value} {d : DataW H} {p : List MemPlace} (hv : Value.okWide Tryz.prog W .any base 84 v) (h : DataW.Trod enc Tryz.prog W 0 (fun _ => true) true 84 v d p) :
    ∃ v0 v1 v2 r, v = .agg #[v0, v1, v2] ∧ RowIs W v0 v1 v2 r ∧ r.fits ∧ (-9223372036854775808 ≤ r.label ∧ r.label ≤ 9223372036854775807) := by
  obtain ⟨cs, rfl, hc⟩ := okWide_struct Tryz.underlying84 hv
  rw [show Tryz.prog.cellsOf 84 = 3 by kernel_rfl] at hc
  obtain ⟨a, b, c, rfl⟩ := agg3 hc
  obtain ⟨n, hn⟩ := h
  obtain ⟨v0, v1, v2, r, e, hr, hf, hl⟩ := sample_cells hn
  simp [Value.cells] at e
  obtain ⟨rfl, rfl, rfl⟩ := e
  exact ⟨_, _, _, r, rfl, hr, hf, hl⟩
/-- Every label is a number of Go's. -/
def Labs (rs : List Row) : Prop := ∀ j (hj : j < rs.length), -9223372036854775808 ≤ rs[j].label ∧ rs[j].label ≤ 9223372036854775807
theorem pick_row {m : Nat} {p : Nat → Row → Prop} (h : ∀ i, i < m → ∃ r, p i r) : ∃ R : Nat → Row, ∀ i, i < m → p i (R i) := by
  have : ∀ i, ∃ r, i < m → p i r := fun i => by
    by_cases hi : i < m
    · obtain ⟨r, hr⟩ := h i hi; exact ⟨r, fun _ => hr⟩
    · exact ⟨⟨[], [], 0⟩, fun h => absurd h hi⟩
  exact ⟨fun i => (this i).choose, fun i hi => (this i).choose_spec hi⟩
theorem rows_cell {n : Nat} {v : Value} {x : DataW H × List MemPlace} (h : DataW.trod enc Tryz.prog W 0 (fun _ => true) true n 28 [v] = some x) :
    ∃ a rs cap, v = .slice a (rs : List Row).length cap ∧ IsR W a rs ∧ FitsR rs ∧ Labs rs := by
  rcases open_slice Tryz.underlying28 h with ⟨hcs, _⟩ | ⟨x, l, c, m, n', D, Pl, hcs, _, hl, hm, hmm, _, hx⟩
  · obtain rfl : v = _ := List.singleton_inj.1 hcs
    exact ⟨none, [], 0, rfl, .inl rfl, ⟨by simp, fun j hj => by simp at hj⟩, fun j hj => by simp at hj⟩
  · obtain rfl : v = _ := List.singleton_inj.1 hcs
    have hmc : m = c := by simpa using hmm
    subst hmc
    rw [show Tryz.prog.cellsOf 84 = 3 by kernel_rfl] at hx
    obtain ⟨R, hR⟩ := pick_row (m := m) (p := fun i r => ∃ v0 v1 v2, W.cell? (x.add (i * 3)) = some v0 ∧ W.cell? ((x.add (i * 3)).add 1) = some v1 ∧ W.cell? ((x.add (i * 3)).add 2) = some v2 ∧ RowIs W v0 v1 v2 r ∧ r.fits ∧ (-9223372036854775808 ≤ r.label ∧ r.label ≤ 9223372036854775807)) (fun i hi => by
      obtain ⟨cs', h1, h2⟩ := hx i hi
      obtain ⟨v0, v1, v2, r, rfl, hr⟩ := sample_cells h2
      obtain ⟨_, _, hc⟩ := World.cells?_some h1
      have e0 := hc 0 (by omega)
      have e1 := hc 1 (by omega)
      have e2 := hc 2 (by omega)
      refine ⟨r, v0, v1, v2, ?_, ?_, ?_, hr⟩
      · simpa [Addr.add] using e0
      · simpa using e1
      · simpa using e2)
    unfold maxLen at hm
    refine ⟨some x, (List.range l).map R, m, by simp, ?_, ⟨by simp; omega, fun j hj => ?_⟩, fun j hj => ?_⟩
    · by_cases h0 : l = 0
      · subst h0; exact .inl rfl
      · obtain ⟨cb, off, spot⟩ := x
        obtain ⟨_, _, _, c0, _⟩ := hR 0 (by omega)
        have hs : spot = none := by simpa [Addr.add] using World.cell?_spot c0
        subst hs
        have hlt : cb < W.heap.size := World.block_lt_of_cell? W _ c0
        refine .inr ⟨cb, off, rfl, hlt, fun j hj => ?_⟩
        have hj' : j < l := by simpa using hj
        obtain ⟨v0, v1, v2, e0, e1, e2, hr, _⟩ := hR j (by omega)
        refine ⟨v0, v1, v2, ⟨?_, ?_, ?_⟩, by simpa using hr⟩
        · rwa [Go.WideShapes.add_plain] at e0
        · rwa [Go.WideShapes.add_plain, Go.WideShapes.add_plain] at e1
        · rwa [Go.WideShapes.add_plain, Go.WideShapes.add_plain] at e2
    · have hj' : j < l := by simpa using hj
      obtain ⟨_, _, _, _, _, _, _, hf, _⟩ := hR j (by omega)
      simpa using hf
    · have hj' : j < l := by simpa using hj
      obtain ⟨_, _, _, _, _, _, _, _, hlb⟩ := hR j (by omega)
      simpa using hlb
theorem table_open {base : Nat} {v : Value} {d : DataW H} {p : List MemPlace} (hv : Value.okWide Tryz.prog W .any base 30 v) (h : DataW.Trod enc Tryz.prog W 0 (fun _ => true) true 30 v d p) :
    ∃ (i j : Int) (a : Option Addr) (rs : List Row) (cap : Nat), v = .agg #[.int .i64 i, .int .i64 j, .slice a rs.length cap] ∧ (-9223372036854775808 ≤ i ∧ i ≤ 9223372036854775807) ∧ (-9223372036854775808 ≤ j ∧ j ≤ 9223372036854775807) ∧ IsR W a rs ∧ FitsR rs ∧ Labs rs := by
  obtain ⟨cs, rfl, hc⟩ := okWide_struct Tryz.underlying30 hv
  rw [show Tryz.prog.cellsOf 30 = 3 by kernel_rfl] at hc
  obtain ⟨a, b, c, rfl⟩ := agg3 hc
  obtain ⟨n, hn⟩ := h
  obtain ⟨y0, y1, m, _, hl, h0, h1⟩ := trod_struct2 Tryz.underlying30 hn
  rw [show Tryz.prog.cellsOf 23 = 2 by kernel_rfl] at h0
  rw [show Tryz.prog.cellsOf 28 = 1 by kernel_rfl] at h1
  obtain ⟨i, j, e, hi, hj⟩ := schema_cells h0
  simp [Value.cells] at e
  obtain ⟨rfl, rfl⟩ := e
  obtain ⟨ad, rs, cap, rfl, hr, hf, hlb⟩ := rows_cell (by simpa [Value.cells] using h1)
  exact ⟨i, j, ad, rs, cap, rfl, hi, hj, hr, hf, hlb⟩
end
end Go.Proofs.YtkiddmbenepfjaaGreat.Op
