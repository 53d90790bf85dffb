/-
  The arguments of the laws over trees, opened: a tree, a list of nodes, a list of trees that came in, out of what the row's reader read of them.
-/
import Derived.Test.YtmkfmolihlnafaaTrS
import Derived.Test.YtmkfmolihlnafaaTrN
import Derived.Test.YtmkfmolihlnafaaOpnS
import Derived.ProofKit
import Derived.ChangeSame
import Derived.Deep.Strs
import Derived.Deep.Slices
namespace Go.Proofs.Ytmkfmolihlnafaa.Op
open Go.ChangeShapes Go.WideShapes Go.Deep Go.RowKit
open Go.Proofs.Ytmkfmolihlnafaa.Tm
set_option maxRecDepth 10000

section
variable {H : Type} {enc : TypeId × Value → H} {W : World}
theorem pick_any {α : Type} (d : α) {m : Nat} {p : Nat → α → Prop} (h : ∀ i, i < m → ∃ r, p i r) : ∃ R : Nat → α, ∀ i, i < m → p i (R i) := by
  have : ∀ i, ∃ r, i < m → p i r := fun i => by
    by_cases hi : i < m
    · obtain ⟨r, hr⟩ := h i hi; exact ⟨r, fun _ => hr⟩
    · exact ⟨d, fun h => absurd h hi⟩
  exact ⟨fun i => (this i).choose, fun i hi => (this i).choose_spec hi⟩
theorem split_cells {n : Nat} {cs : List Value} {x : DataW H × List MemPlace} (h : DataW.trod enc Try.prog W 0 (fun _ => true) true n 78 cs = some x) :
    ∃ s : Int × Int, cs = [.int .i64 s.1, .int .i64 s.2] := by
  obtain ⟨y0, y1, m, _, hl, h0, h1⟩ := trod_struct2 Try.underlying78 h
  rw [show Try.prog.cellsOf 78 = 2 by kernel_rfl] at hl
  rw [show Try.prog.cellsOf 3 = 1 by kernel_rfl] at h0 h1
  match cs, hl with
  | [a, b], _ =>
    obtain ⟨i, rfl, hi⟩ := int_cell (by simpa using h0)
    obtain ⟨j, rfl, hj⟩ := int_cell (by simpa using h1)
    exact ⟨(i, j), rfl⟩
theorem splits_cell {n : Nat} {v : Value} {x : DataW H × List MemPlace} (h : DataW.trod enc Try.prog W 0 (fun _ => true) true n 22 [v] = some x) :
    ∃ a ps cap, v = .slice a (ps : List (Int × Int)).length cap ∧ IsP W a ps ∧ ps.length ≤ maxLen := by
  rcases open_slice Try.underlying22 h with ⟨hcs, _⟩ | ⟨x, l, c, m, n', D, Pl, hcs, _, hl, hm, hmm, _, hx⟩
  · obtain rfl : v = _ := List.singleton_inj.1 hcs
    exact ⟨none, [], 0, rfl, .inl rfl, by simp⟩
  · obtain rfl : v = _ := List.singleton_inj.1 hcs
    have hmc : m = c := by simpa using hmm
    subst hmc
    rw [show Try.prog.cellsOf 78 = 2 by kernel_rfl] at hx
    obtain ⟨R, hR⟩ := pick_any (α := Int × Int) (0, 0) (m := m) (p := fun i r => W.cell? (x.add (i * 2)) = some (.int .i64 r.1) ∧ W.cell? ((x.add (i * 2)).add 1) = some (.int .i64 r.2)) (fun i hi => by
      obtain ⟨cs', h1, h2⟩ := hx i hi
      obtain ⟨s, rfl⟩ := split_cells h2
      obtain ⟨_, _, hc⟩ := World.cells?_some h1
      have e0 := hc 0 (by omega)
      have e1 := hc 1 (by omega)
      refine ⟨s, ?_, ?_⟩
      · simpa [Addr.add] using e0
      · simpa using e1)
    refine ⟨some x, (List.range l).map R, m, by simp, ?_, by simp; omega⟩
    by_cases h0 : l = 0
    · subst h0; exact .inl rfl
    · obtain ⟨cb, off, spot⟩ := x
      obtain ⟨c0, _⟩ := hR 0 (by omega)
      have hs : spot = none := by simpa [Addr.add] using World.cell?_spot c0
      subst hs
      have hlt : cb < W.heap.size := World.block_lt_of_cell? W _ c0
      refine .inr ⟨cb, off, rfl, hlt, fun j hj => ?_⟩
      have hj' : j < l := by simpa using hj
      obtain ⟨e0, e1⟩ := hR j (by omega)
      refine ⟨?_, ?_⟩
      · rw [Go.WideShapes.add_plain] at e0; simpa using e0
      · rw [Go.WideShapes.add_plain, Go.WideShapes.add_plain] at e1; simpa using e1
theorem tree_cells {n : Nat} {cs : List Value} {x : DataW H × List MemPlace} (h : DataW.trod enc Try.prog W 0 (fun _ => true) true n 25 cs = some x) :
    ∃ (t : Tr.T) (a a' : Option Addr) (c c' : Nat), cs = [.slice a t.sp.length c, .slice a' t.lv.length c'] ∧ IsP W a t.sp ∧ Li.IsL W a' t.lv ∧ t.sp.length ≤ maxLen ∧ t.lv.length ≤ maxLen := by
  obtain ⟨y0, y1, m, _, hl, h0, h1⟩ := trod_struct2 Try.underlying25 h
  rw [show Try.prog.cellsOf 25 = 2 by kernel_rfl] at hl
  rw [show Try.prog.cellsOf 22 = 1 by kernel_rfl] at h0
  rw [show Try.prog.cellsOf 23 = 1 by kernel_rfl] at h1
  match cs, hl with
  | [u, v], _ =>
    obtain ⟨a, ps, c, rfl, hp, hl0⟩ := splits_cell (by simpa using h0)
    obtain ⟨a', xs, c', rfl, hx, hl1⟩ := ints_cell (by simpa using h1)
    exact ⟨⟨ps, xs⟩, a, a', c, c', rfl, hp, hx, hl0, hl1⟩
theorem tree_open {base : Nat} {v : Value} {d : DataW H} {p : List MemPlace} (hv : Value.okWide Try.prog W .any base 25 v) (h : DataW.Trod enc Try.prog W 0 (fun _ => true) true 25 v d p) :
    ∃ (t : Tr.T) (a a' : Option Addr) (c c' : Nat), v = .agg #[.slice a t.sp.length c, .slice a' t.lv.length c'] ∧ IsP W a t.sp ∧ Li.IsL W a' t.lv ∧ t.sp.length ≤ maxLen ∧ t.lv.length ≤ maxLen := by
  obtain ⟨cs, rfl, hc⟩ := okWide_struct Try.underlying25 hv
  rw [show Try.prog.cellsOf 25 = 2 by kernel_rfl] at hc
  obtain ⟨u, v, rfl⟩ := agg2 hc
  obtain ⟨n, hn⟩ := h
  obtain ⟨t, a, a', c, c', e, r⟩ := tree_cells hn
  simp [Value.cells] at e
  obtain ⟨rfl, rfl⟩ := e
  exact ⟨t, a, a', c, c', rfl, r⟩
theorem trod_struct5 {P : Program} {w : World} {base : Nat} {spare : Nat → Bool} {held : Bool} {t : TypeId} {f0 f1 f2 f3 f4 : Field} {fuel : Nat} {cs : List Value} {x : DataW H × List MemPlace} (ht : P.underlying t = some (.struct #[f0, f1, f2, f3, f4])) (h : DataW.trod enc P w base spare held fuel t cs = some x) :
    ∃ y0 y1 y2 y3 y4 n, cs.length = P.cellsOf t ∧ DataW.trod enc P w base spare held n f0.type ((cs.drop f0.offset).take (P.cellsOf f0.type)) = some y0 ∧ DataW.trod enc P w base spare held n f1.type ((cs.drop f1.offset).take (P.cellsOf f1.type)) = some y1 ∧ DataW.trod enc P w base spare held n f2.type ((cs.drop f2.offset).take (P.cellsOf f2.type)) = some y2 ∧ DataW.trod enc P w base spare held n f3.type ((cs.drop f3.offset).take (P.cellsOf f3.type)) = some y3 ∧ DataW.trod enc P w base spare held n f4.type ((cs.drop f4.offset).take (P.cellsOf f4.type)) = some y4 := by
  obtain ⟨xs, n, _, rfl, hl, hlen, hf⟩ := DataW.trod_struct ht h
  match xs, hlen with
  | [y0, y1, y2, y3, y4], _ => exact ⟨y0, y1, y2, y3, y4, n, hl, by simpa using hf 0 f0 rfl, by simpa using hf 1 f1 rfl, by simpa using hf 2 f2 rfl, by simpa using hf 3 f3 rfl, by simpa using hf 4 f4 rfl⟩
theorem node_cells {n : Nat} {cs : List Value} {x : DataW H × List MemPlace} (h : DataW.trod enc Try.prog W 0 (fun _ => true) true n 72 cs = some x) :
    ∃ s : Tr.Nd, cs = [.int .i64 s.f, .int .i64 s.b, .int .i64 s.l, .int .i64 s.r, .int .i64 s.v] ∧ NdOk s := by
  obtain ⟨y0, y1, y2, y3, y4, m, hl, h0, h1, h2, h3, h4⟩ := trod_struct5 Try.underlying72 h
  rw [show Try.prog.cellsOf 72 = 5 by kernel_rfl] at hl
  rw [show Try.prog.cellsOf 3 = 1 by kernel_rfl] at h0 h1 h2 h3 h4
  match cs, hl with
  | [a, b, c, d, e], _ =>
    obtain ⟨i0, rfl, b0⟩ := int_cell (by simpa using h0)
    obtain ⟨i1, rfl, b1⟩ := int_cell (by simpa using h1)
    obtain ⟨i2, rfl, b2⟩ := int_cell (by simpa using h2)
    obtain ⟨i3, rfl, b3⟩ := int_cell (by simpa using h3)
    obtain ⟨i4, rfl, b4⟩ := int_cell (by simpa using h4)
    exact ⟨⟨i0, i1, i2, i3, i4⟩, rfl, b0, b1, b2, b3, b4⟩
theorem nodes_cell {n : Nat} {v : Value} {x : DataW H × List MemPlace} (h : DataW.trod enc Try.prog W 0 (fun _ => true) true n 43 [v] = some x) :
    ∃ a ns cap, v = .slice a (ns : List Tr.Nd).length cap ∧ IsN W a ns ∧ ns.length ≤ maxLen ∧ ∀ j (hj : j < ns.length), NdOk ns[j] := by
  rcases open_slice Try.underlying43 h with ⟨hcs, _⟩ | ⟨x, l, c, m, n', D, Pl, hcs, _, hl, hm, hmm, _, hx⟩
  · obtain rfl : v = _ := List.singleton_inj.1 hcs
    exact ⟨none, [], 0, rfl, .inl rfl, by simp, fun j hj => by simp at hj⟩
  · obtain rfl : v = _ := List.singleton_inj.1 hcs
    have hmc : m = c := by simpa using hmm
    subst hmc
    rw [show Try.prog.cellsOf 72 = 5 by kernel_rfl] at hx
    obtain ⟨R, hR⟩ := pick_any (α := Tr.Nd) Tr.nd0 (m := m) (p := fun i r => (W.cell? (x.add (i * 5)) = some (.int .i64 r.f) ∧ W.cell? ((x.add (i * 5)).add 1) = some (.int .i64 r.b) ∧ W.cell? ((x.add (i * 5)).add 2) = some (.int .i64 r.l) ∧ W.cell? ((x.add (i * 5)).add 3) = some (.int .i64 r.r) ∧ W.cell? ((x.add (i * 5)).add 4) = some (.int .i64 r.v)) ∧ NdOk r) (fun i hi => by
      obtain ⟨cs', h1, h2⟩ := hx i hi
      obtain ⟨s, rfl, hok⟩ := node_cells h2
      obtain ⟨_, _, hc⟩ := World.cells?_some h1
      have e0 := hc 0 (by omega)
      have e1 := hc 1 (by omega)
      have e2 := hc 2 (by omega)
      have e3 := hc 3 (by omega)
      have e4 := hc 4 (by omega)
      refine ⟨s, ⟨?_, ?_, ?_, ?_, ?_⟩, hok⟩
      · simpa [Addr.add] using e0
      · simpa using e1
      · simpa using e2
      · simpa using e3
      · simpa using e4)
    refine ⟨some x, (List.range l).map R, m, by simp, ?_, by simp; omega, fun j hj => ?_⟩
    · by_cases h0 : l = 0
      · subst h0; exact .inl rfl
      · obtain ⟨cb, off, spot⟩ := x
        obtain ⟨⟨c0, _⟩, _⟩ := hR 0 (by omega)
        have hs : spot = none := by simpa [Addr.add] using World.cell?_spot c0
        subst hs
        have hlt : cb < W.heap.size := World.block_lt_of_cell? W _ c0
        refine .inr ⟨cb, off, rfl, hlt, fun j hj => ?_⟩
        have hj' : j < l := by simpa using hj
        obtain ⟨⟨e0, e1, e2, e3, e4⟩, _⟩ := hR j (by omega)
        rw [Go.WideShapes.add_plain] at e0
        rw [Go.WideShapes.add_plain, Go.WideShapes.add_plain] at e1 e2 e3 e4
        refine ⟨by simpa using e0, by simpa using e1, by simpa using e2, by simpa using e3, by simpa using e4⟩
    · have hj' : j < l := by simpa using hj
      have := (hR j (by omega)).2
      simpa using this
theorem nodes_open {base : Nat} {v : Value} {d : DataW H} {p : List MemPlace} (hv : Value.okWide Try.prog W .any base 43 v) (h : DataW.Trod enc Try.prog W 0 (fun _ => true) true 43 v d p) :
    ∃ a ns cap, v = .slice a (ns : List Tr.Nd).length cap ∧ IsN W a ns ∧ ns.length ≤ maxLen ∧ ∀ j (hj : j < ns.length), NdOk ns[j] := by
  obtain ⟨a0, l0, c0, rfl⟩ := okWide_slice Try.underlying43 hv
  obtain ⟨n, hn⟩ := h
  exact nodes_cell (by simpa [Value.cells] using hn)
end
end Go.Proofs.Ytmkfmolihlnafaa.Op
