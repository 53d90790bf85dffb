/-
  The arguments of the laws over trees, opened: a tree, a list of nodes, a list of trees that came in, out of what the row's reader read of them.
-/
import Derived.Test.YtkiddmbenepfjaaTrS
import Derived.Test.YtkiddmbenepfjaaOpnS
import Derived.ProofKit
import Derived.ChangeSame
import Derived.Deep.Strs
import Derived.Deep.Slices
namespace Go.Proofs.Ytkiddmbenepfjaa.Op
open Go.ChangeShapes Go.WideShapes Go.Deep Go.RowKit
open Go.Proofs.Ytkiddmbenepfjaa.Tm
set_option maxRecDepth 10000

section
variable {H : Type} {enc : TypeId × Value → H} {W : World}
theorem pick_any {α : Type} (d : α) {m : Nat} {p : Nat → α → Prop} (h : ∀ i, i < m → ∃ r, p i r) : ∃ R : Nat → α, ∀ i, i < m → p i (R i) := by
  have : ∀ i, ∃ r, i < m → p i r := fun i => by
    by_cases hi : i < m
    · obtain ⟨r, hr⟩ := h i hi; exact ⟨r, fun _ => hr⟩
    · exact ⟨d, fun h => absurd h hi⟩
  exact ⟨fun i => (this i).choose, fun i hi => (this i).choose_spec hi⟩
theorem split_cells {n : Nat} {cs : List Value} {x : DataW H × List MemPlace} (h : DataW.trod enc Try.prog W 0 (fun _ => true) true n 128 cs = some x) :
    ∃ s : Int × Int, cs = [.int .i64 s.1, .int .i64 s.2] := by
  obtain ⟨y0, y1, m, _, hl, h0, h1⟩ := trod_struct2 Try.underlying128 h
  rw [show Try.prog.cellsOf 128 = 2 by kernel_rfl] at hl
  rw [show Try.prog.cellsOf 3 = 1 by kernel_rfl] at h0 h1
  match cs, hl with
  | [a, b], _ =>
    obtain ⟨i, rfl, hi⟩ := int_cell (by simpa using h0)
    obtain ⟨j, rfl, hj⟩ := int_cell (by simpa using h1)
    exact ⟨(i, j), rfl⟩
theorem splits_cell {n : Nat} {v : Value} {x : DataW H × List MemPlace} (h : DataW.trod enc Try.prog W 0 (fun _ => true) true n 95 [v] = some x) :
    ∃ a ps cap, v = .slice a (ps : List (Int × Int)).length cap ∧ IsP W a ps ∧ ps.length ≤ maxLen := by
  rcases open_slice Try.underlying95 h with ⟨hcs, _⟩ | ⟨x, l, c, m, n', D, Pl, hcs, _, hl, hm, hmm, _, hx⟩
  · obtain rfl : v = _ := List.singleton_inj.1 hcs
    exact ⟨none, [], 0, rfl, .inl rfl, by simp⟩
  · obtain rfl : v = _ := List.singleton_inj.1 hcs
    have hmc : m = c := by simpa using hmm
    subst hmc
    rw [show Try.prog.cellsOf 128 = 2 by kernel_rfl] at hx
    obtain ⟨R, hR⟩ := pick_any (α := Int × Int) (0, 0) (m := m) (p := fun i r => W.cell? (x.add (i * 2)) = some (.int .i64 r.1) ∧ W.cell? ((x.add (i * 2)).add 1) = some (.int .i64 r.2)) (fun i hi => by
      obtain ⟨cs', h1, h2⟩ := hx i hi
      obtain ⟨s, rfl⟩ := split_cells h2
      obtain ⟨_, _, hc⟩ := World.cells?_some h1
      have e0 := hc 0 (by omega)
      have e1 := hc 1 (by omega)
      refine ⟨s, ?_, ?_⟩
      · simpa [Addr.add] using e0
      · simpa using e1)
    refine ⟨some x, (List.range l).map R, m, by simp, ?_, by simp; omega⟩
    by_cases h0 : l = 0
    · subst h0; exact .inl rfl
    · obtain ⟨cb, off, spot⟩ := x
      obtain ⟨c0, _⟩ := hR 0 (by omega)
      have hs : spot = none := by simpa [Addr.add] using World.cell?_spot c0
      subst hs
      have hlt : cb < W.heap.size := World.block_lt_of_cell? W _ c0
      refine .inr ⟨cb, off, rfl, hlt, fun j hj => ?_⟩
      have hj' : j < l := by simpa using hj
      obtain ⟨e0, e1⟩ := hR j (by omega)
      refine ⟨?_, ?_⟩
      · rw [Go.WideShapes.add_plain] at e0; simpa using e0
      · rw [Go.WideShapes.add_plain, Go.WideShapes.add_plain] at e1; simpa using e1
theorem tree_cells {n : Nat} {cs : List Value} {x : DataW H × List MemPlace} (h : DataW.trod enc Try.prog W 0 (fun _ => true) true n 97 cs = some x) :
    ∃ (t : Tr.T) (a a' : Option Addr) (c c' : Nat), cs = [.slice a t.sp.length c, .slice a' t.lv.length c'] ∧ IsP W a t.sp ∧ Li.IsL W a' t.lv ∧ t.sp.length ≤ maxLen ∧ t.lv.length ≤ maxLen := by
  obtain ⟨y0, y1, m, _, hl, h0, h1⟩ := trod_struct2 Try.underlying97 h
  rw [show Try.prog.cellsOf 97 = 2 by kernel_rfl] at hl
  rw [show Try.prog.cellsOf 95 = 1 by kernel_rfl] at h0
  rw [show Try.prog.cellsOf 38 = 1 by kernel_rfl] at h1
  match cs, hl with
  | [u, v], _ =>
    obtain ⟨a, ps, c, rfl, hp, hl0⟩ := splits_cell (by simpa using h0)
    obtain ⟨a', xs, c', rfl, hx, hl1⟩ := ints_cell (by simpa using h1)
    exact ⟨⟨ps, xs⟩, a, a', c, c', rfl, hp, hx, hl0, hl1⟩
theorem tree_open {base : Nat} {v : Value} {d : DataW H} {p : List MemPlace} (hv : Value.okWide Try.prog W .any base 97 v) (h : DataW.Trod enc Try.prog W 0 (fun _ => true) true 97 v d p) :
    ∃ (t : Tr.T) (a a' : Option Addr) (c c' : Nat), v = .agg #[.slice a t.sp.length c, .slice a' t.lv.length c'] ∧ IsP W a t.sp ∧ Li.IsL W a' t.lv ∧ t.sp.length ≤ maxLen ∧ t.lv.length ≤ maxLen := by
  obtain ⟨cs, rfl, hc⟩ := okWide_struct Try.underlying97 hv
  rw [show Try.prog.cellsOf 97 = 2 by kernel_rfl] at hc
  obtain ⟨u, v, rfl⟩ := agg2 hc
  obtain ⟨n, hn⟩ := h
  obtain ⟨t, a, a', c, c', e, r⟩ := tree_cells hn
  simp [Value.cells] at e
  obtain ⟨rfl, rfl⟩ := e
  exact ⟨t, a, a', c, c', rfl, r⟩
theorem trees_cell {n : Nat} {v : Value} {x : DataW H × List MemPlace} (h : DataW.trod enc Try.prog W 0 (fun _ => true) true n 25 [v] = some x) :
    ∃ a ts cap, v = .slice a (ts : List Tr.T).length cap ∧ IsT W a ts ∧ FitsT ts := by
  rcases open_slice Try.underlying25 h with ⟨hcs, _⟩ | ⟨x, l, c, m, n', D, Pl, hcs, _, hl, hm, hmm, _, hx⟩
  · obtain rfl : v = _ := List.singleton_inj.1 hcs
    exact ⟨none, [], 0, rfl, .inl rfl, ⟨by simp, fun j hj => by simp at hj⟩⟩
  · obtain rfl : v = _ := List.singleton_inj.1 hcs
    have hmc : m = c := by simpa using hmm
    subst hmc
    rw [show Try.prog.cellsOf 97 = 2 by kernel_rfl] at hx
    obtain ⟨R, hR⟩ := pick_any (α := Tr.T) ⟨[], []⟩ (m := m) (p := fun i t => ∃ v0 v1, W.cell? (x.add (i * 2)) = some v0 ∧ W.cell? ((x.add (i * 2)).add 1) = some v1 ∧ TrIs W v0 v1 t ∧ t.sp.length ≤ maxLen ∧ t.lv.length ≤ maxLen) (fun i hi => by
      obtain ⟨cs', h1, h2⟩ := hx i hi
      obtain ⟨t, a, a', c, c', rfl, hp, hx, hl0, hl1⟩ := tree_cells h2
      obtain ⟨_, _, hc⟩ := World.cells?_some h1
      have e0 := hc 0 (by omega)
      have e1 := hc 1 (by omega)
      refine ⟨t, _, _, ?_, ?_, ⟨a, c, a', c', rfl, rfl, hp, hx⟩, hl0, hl1⟩
      · simpa [Addr.add] using e0
      · simpa using e1)
    unfold maxLen at hm
    refine ⟨some x, (List.range l).map R, m, by simp, ?_, ⟨by simp; omega, fun j hj => ?_⟩⟩
    · by_cases h0 : l = 0
      · subst h0; exact .inl rfl
      · obtain ⟨cb, off, spot⟩ := x
        obtain ⟨_, _, c0, _⟩ := hR 0 (by omega)
        have hs : spot = none := by simpa [Addr.add] using World.cell?_spot c0
        subst hs
        have hlt : cb < W.heap.size := World.block_lt_of_cell? W _ c0
        refine .inr ⟨cb, off, rfl, hlt, fun j hj => ?_⟩
        have hj' : j < l := by simpa using hj
        obtain ⟨v0, v1, e0, e1, hr, _⟩ := hR j (by omega)
        refine ⟨v0, v1, ⟨?_, ?_⟩, by simpa using hr⟩
        · rwa [Go.WideShapes.add_plain] at e0
        · rwa [Go.WideShapes.add_plain, Go.WideShapes.add_plain] at e1
    · have hj' : j < l := by simpa using hj
      obtain ⟨_, _, _, _, _, hf0, hf1⟩ := hR j (by omega)
      unfold maxLen at hf0 hf1
      simp only [List.getElem_map, List.getElem_range]
      omega
theorem trees_open {base : Nat} {v : Value} {d : DataW H} {p : List MemPlace} (hv : Value.okWide Try.prog W .any base 25 v) (h : DataW.Trod enc Try.prog W 0 (fun _ => true) true 25 v d p) :
    ∃ a ts cap, v = .slice a (ts : List Tr.T).length cap ∧ IsT W a ts ∧ FitsT ts := by
  obtain ⟨a0, l0, c0, rfl⟩ := okWide_slice Try.underlying25 hv
  obtain ⟨n, hn⟩ := h
  exact trees_cell (by simpa [Value.cells] using hn)
end
end Go.Proofs.Ytkiddmbenepfjaa.Op
