/-
  The arguments of the laws over trees, opened: a tree, a list of nodes, a list of trees that came in, out of what the row's reader read of them.
-/
import Derived.Test.YtbnjbmajfadmaaaTrS
import Derived.Test.YtbnjbmajfadmaaaOpnS
import Derived.ProofKit
import Derived.ChangeSame
import Derived.Deep.Strs
import Derived.Deep.Slices
namespace Go.Proofs.Ytbnjbmajfadmaaa.Op
open Go.ChangeShapes Go.WideShapes Go.Deep Go.RowKit
open Go.Proofs.Ytbnjbmajfadmaaa.Tm
set_option maxRecDepth 10000

section
variable {H : Type} {enc : TypeId × Value → H} {W : World}
theorem pick_any {α : Type} (d : α) {m : Nat} {p : Nat → α → Prop} (h : ∀ i, i < m → ∃ r, p i r) : ∃ R : Nat → α, ∀ i, i < m → p i (R i) := by
  have : ∀ i, ∃ r, i < m → p i r := fun i => by
    by_cases hi : i < m
    · obtain ⟨r, hr⟩ := h i hi; exact ⟨r, fun _ => hr⟩
    · exact ⟨d, fun h => absurd h hi⟩
  exact ⟨fun i => (this i).choose, fun i hi => (this i).choose_spec hi⟩
theorem split_cells {n : Nat} {cs : List Value} {x : DataW H × List MemPlace} (h : DataW.trod enc Try.prog W 0 (fun _ => true) true n 54 cs = some x) :
    ∃ s : Int × Int, cs = [.int .i64 s.1, .int .i64 s.2] := by
  obtain ⟨y0, y1, m, _, hl, h0, h1⟩ := trod_struct2 Try.underlying54 h
  rw [show Try.prog.cellsOf 54 = 2 by kernel_rfl] at hl
  rw [show Try.prog.cellsOf 3 = 1 by kernel_rfl] at h0 h1
  match cs, hl with
  | [a, b], _ =>
    obtain ⟨i, rfl, hi⟩ := int_cell (by simpa using h0)
    obtain ⟨j, rfl, hj⟩ := int_cell (by simpa using h1)
    exact ⟨(i, j), rfl⟩
theorem splits_cell {n : Nat} {v : Value} {x : DataW H × List MemPlace} (h : DataW.trod enc Try.prog W 0 (fun _ => true) true n 74 [v] = some x) :
    ∃ a ps cap, v = .slice a (ps : List (Int × Int)).length cap ∧ IsP W a ps ∧ ps.length ≤ maxLen := by
  rcases open_slice Try.underlying74 h with ⟨hcs, _⟩ | ⟨x, l, c, m, n', D, Pl, hcs, _, hl, hm, hmm, _, hx⟩
  · obtain rfl : v = _ := List.singleton_inj.1 hcs
    exact ⟨none, [], 0, rfl, .inl rfl, by simp⟩
  · obtain rfl : v = _ := List.singleton_inj.1 hcs
    have hmc : m = c := by simpa using hmm
    subst hmc
    rw [show Try.prog.cellsOf 54 = 2 by kernel_rfl] at hx
    obtain ⟨R, hR⟩ := pick_any (α := Int × Int) (0, 0) (m := m) (p := fun i r => W.cell? (x.add (i * 2)) = some (.int .i64 r.1) ∧ W.cell? ((x.add (i * 2)).add 1) = some (.int .i64 r.2)) (fun i hi => by
      obtain ⟨cs', h1, h2⟩ := hx i hi
      obtain ⟨s, rfl⟩ := split_cells h2
      obtain ⟨_, _, hc⟩ := World.cells?_some h1
      have e0 := hc 0 (by omega)
      have e1 := hc 1 (by omega)
      refine ⟨s, ?_, ?_⟩
      · simpa [Addr.add] using e0
      · simpa using e1)
    refine ⟨some x, (List.range l).map R, m, by simp, ?_, by simp; omega⟩
    by_cases h0 : l = 0
    · subst h0; exact .inl rfl
    · obtain ⟨cb, off, spot⟩ := x
      obtain ⟨c0, _⟩ := hR 0 (by omega)
      have hs : spot = none := by simpa [Addr.add] using World.cell?_spot c0
      subst hs
      have hlt : cb < W.heap.size := World.block_lt_of_cell? W _ c0
      refine .inr ⟨cb, off, rfl, hlt, fun j hj => ?_⟩
      have hj' : j < l := by simpa using hj
      obtain ⟨e0, e1⟩ := hR j (by omega)
      refine ⟨?_, ?_⟩
      · rw [Go.WideShapes.add_plain] at e0; simpa using e0
      · rw [Go.WideShapes.add_plain, Go.WideShapes.add_plain] at e1; simpa using e1
theorem tree_cells {n : Nat} {cs : List Value} {x : DataW H × List MemPlace} (h : DataW.trod enc Try.prog W 0 (fun _ => true) true n 76 cs = some x) :
    ∃ (t : Tr.T) (a a' : Option Addr) (c c' : Nat), cs = [.slice a t.sp.length c, .slice a' t.lv.length c'] ∧ IsP W a t.sp ∧ Li.IsL W a' t.lv ∧ t.sp.length ≤ maxLen ∧ t.lv.length ≤ maxLen := by
  obtain ⟨y0, y1, m, _, hl, h0, h1⟩ := trod_struct2 Try.underlying76 h
  rw [show Try.prog.cellsOf 76 = 2 by kernel_rfl] at hl
  rw [show Try.prog.cellsOf 74 = 1 by kernel_rfl] at h0
  rw [show Try.prog.cellsOf 25 = 1 by kernel_rfl] at h1
  match cs, hl with
  | [u, v], _ =>
    obtain ⟨a, ps, c, rfl, hp, hl0⟩ := splits_cell (by simpa using h0)
    obtain ⟨a', xs, c', rfl, hx, hl1⟩ := ints_cell (by simpa using h1)
    exact ⟨⟨ps, xs⟩, a, a', c, c', rfl, hp, hx, hl0, hl1⟩
theorem tree_open {base : Nat} {v : Value} {d : DataW H} {p : List MemPlace} (hv : Value.okWide Try.prog W .any base 76 v) (h : DataW.Trod enc Try.prog W 0 (fun _ => true) true 76 v d p) :
    ∃ (t : Tr.T) (a a' : Option Addr) (c c' : Nat), v = .agg #[.slice a t.sp.length c, .slice a' t.lv.length c'] ∧ IsP W a t.sp ∧ Li.IsL W a' t.lv ∧ t.sp.length ≤ maxLen ∧ t.lv.length ≤ maxLen := by
  obtain ⟨cs, rfl, hc⟩ := okWide_struct Try.underlying76 hv
  rw [show Try.prog.cellsOf 76 = 2 by kernel_rfl] at hc
  obtain ⟨u, v, rfl⟩ := agg2 hc
  obtain ⟨n, hn⟩ := h
  obtain ⟨t, a, a', c, c', e, r⟩ := tree_cells hn
  simp [Value.cells] at e
  obtain ⟨rfl, rfl⟩ := e
  exact ⟨t, a, a', c, c', rfl, r⟩
end
end Go.Proofs.Ytbnjbmajfadmaaa.Op
