/-
  The arguments of the laws over rows, opened: rows, lists of lists, cells, a split, out of what the row's reader read of them.
-/
import Derived.Test.YtbnjbmajfadmaaaSeR
import Derived.Test.YtbnjbmajfadmaaaOpnS
import Derived.ProofKit
import Derived.ChangeSame
import Derived.Deep.Strs
import Derived.Deep.Slices
namespace Go.Proofs.Ytbnjbmajfadmaaa.Op
open Go.ChangeShapes Go.WideShapes Go.Deep Go.RowKit
open Go.Proofs.Ytbnjbmajfadmaaa.Tm (IsP)
open Go.Proofs.Ytbnjbmajfadmaaa.Sv
open Go.Proofs.Ytbnjbmajfadmaaa.Se (R)
set_option maxRecDepth 10000

section
variable {H : Type} {enc : TypeId × Value → H} {W : World}
theorem pick_all {α : Type} (d : α) {m : Nat} {p : Nat → α → Prop} (h : ∀ i, i < m → ∃ r, p i r) : ∃ R : Nat → α, ∀ i, i < m → p i (R i) := by
  have : ∀ i, ∃ r, i < m → p i r := fun i => by
    by_cases hi : i < m
    · obtain ⟨r, hr⟩ := h i hi; exact ⟨r, fun _ => hr⟩
    · exact ⟨d, fun h => absurd h hi⟩
  exact ⟨fun i => (this i).choose, fun i hi => (this i).choose_spec hi⟩
theorem trod_one {P : Program} {w : World} {base : Nat} {spare : Nat → Bool} {held : Bool} {t : TypeId} {f0 : Field} {fuel : Nat} {cs : List Value} {x : DataW H × List MemPlace} (ht : P.underlying t = some (.struct #[f0])) (h : DataW.trod enc P w base spare held fuel t cs = some x) :
    ∃ y0 n, cs.length = P.cellsOf t ∧ DataW.trod enc P w base spare held n f0.type ((cs.drop f0.offset).take (P.cellsOf f0.type)) = some y0 := by
  obtain ⟨xs, n, _, rfl, hl, hlen, hf⟩ := DataW.trod_struct ht h
  match xs, hlen with
  | [y0], _ => exact ⟨y0, n, hl, by simpa using hf 0 f0 rfl⟩
theorem trod_five {P : Program} {w : World} {base : Nat} {spare : Nat → Bool} {held : Bool} {t : TypeId} {f0 f1 f2 f3 f4 : Field} {fuel : Nat} {cs : List Value} {x : DataW H × List MemPlace} (ht : P.underlying t = some (.struct #[f0, f1, f2, f3, f4])) (h : DataW.trod enc P w base spare held fuel t cs = some x) :
    ∃ y0 y1 y2 y3 y4 n, cs.length = P.cellsOf t ∧ DataW.trod enc P w base spare held n f0.type ((cs.drop f0.offset).take (P.cellsOf f0.type)) = some y0 ∧ DataW.trod enc P w base spare held n f1.type ((cs.drop f1.offset).take (P.cellsOf f1.type)) = some y1 ∧ DataW.trod enc P w base spare held n f2.type ((cs.drop f2.offset).take (P.cellsOf f2.type)) = some y2 ∧ DataW.trod enc P w base spare held n f3.type ((cs.drop f3.offset).take (P.cellsOf f3.type)) = some y3 ∧ DataW.trod enc P w base spare held n f4.type ((cs.drop f4.offset).take (P.cellsOf f4.type)) = some y4 := by
  obtain ⟨xs, n, _, rfl, hl, hlen, hf⟩ := DataW.trod_struct ht h
  match xs, hlen with
  | [y0, y1, y2, y3, y4], _ => exact ⟨y0, y1, y2, y3, y4, n, hl, by simpa using hf 0 f0 rfl, by simpa using hf 1 f1 rfl, by simpa using hf 2 f2 rfl, by simpa using hf 3 f3 rfl, by simpa using hf 4 f4 rfl⟩
theorem vec_cells {n : Nat} {cs : List Value} {x : DataW H × List MemPlace} (h : DataW.trod enc Try.prog W 0 (fun _ => true) true n 129 cs = some x) :
    ∃ a xs c, cs = [.slice a (xs : List Int).length c] ∧ Li.IsL W a xs ∧ xs.length ≤ maxLen := by
  obtain ⟨y0, m, hl, h0⟩ := trod_one Try.underlying129 h
  rw [show Try.prog.cellsOf 129 = 1 by kernel_rfl] at hl
  rw [show Try.prog.cellsOf 25 = 1 by kernel_rfl] at h0
  match cs, hl with
  | [v], _ =>
    obtain ⟨a, xs, c, rfl, hx, hm⟩ := ints_cell (by simpa using h0)
    exact ⟨a, xs, c, rfl, hx, hm⟩
theorem vecs_cell {n : Nat} {v : Value} {x : DataW H × List MemPlace} (h : DataW.trod enc Try.prog W 0 (fun _ => true) true n 51 [v] = some x) :
    ∃ a xs cap, v = .slice a (xs : List (List Int)).length cap ∧ IsV W a xs ∧ FitsV xs := by
  rcases open_slice Try.underlying51 h with ⟨hcs, _⟩ | ⟨x, l, c, m, n', D, Pl, hcs, _, hl, hm, hmm, _, hx⟩
  · obtain rfl : v = _ := List.singleton_inj.1 hcs
    exact ⟨none, [], 0, rfl, .inl rfl, ⟨by simp, fun j hj => by simp at hj⟩⟩
  · obtain rfl : v = _ := List.singleton_inj.1 hcs
    have hmc : m = c := by simpa using hmm
    subst hmc
    rw [show Try.prog.cellsOf 129 = 1 by kernel_rfl] at hx
    obtain ⟨Q, hQ⟩ := pick_all (α := List Int) [] (m := m) (p := fun i t => ∃ a' c', W.cell? (x.add (i * 1)) = some (.slice a' t.length c') ∧ Li.IsL W a' t ∧ t.length ≤ maxLen) (fun i hi => by
      obtain ⟨cs', h1, h2⟩ := hx i hi
      obtain ⟨a, t, c, rfl, hi', hl0⟩ := vec_cells h2
      obtain ⟨_, _, hc⟩ := World.cells?_some h1
      have e0 := hc 0 (by omega)
      refine ⟨t, a, c, ?_, hi', hl0⟩
      simpa [Addr.add] using e0)
    unfold maxLen at hm
    refine ⟨some x, (List.range l).map Q, m, by simp, ?_, ⟨by simp; omega, fun j hj => ?_⟩⟩
    · by_cases h0 : l = 0
      · subst h0; exact .inl rfl
      · obtain ⟨cb, off, spot⟩ := x
        obtain ⟨_, _, c0, _⟩ := hQ 0 (by omega)
        have hs : spot = none := by simpa [Addr.add] using World.cell?_spot c0
        subst hs
        have hlt : cb < W.heap.size := World.block_lt_of_cell? W _ c0
        refine .inr ⟨cb, off, rfl, hlt, fun j hj => ?_⟩
        have hj' : j < l := by simpa using hj
        obtain ⟨a', c', e0, hr, _⟩ := hQ j (by omega)
        refine ⟨a', c', ?_, by simpa using hr⟩
        rw [Go.WideShapes.add_plain, Nat.mul_one] at e0
        simpa using e0
    · have hj' : j < l := by simpa using hj
      obtain ⟨_, _, _, _, hf0⟩ := hQ j (by omega)
      unfold maxLen at hf0
      simp only [List.getElem_map, List.getElem_range]
      omega
theorem vecs_open {base : Nat} {v : Value} {d : DataW H} {p : List MemPlace} (hv : Value.okWide Try.prog W .any base 51 v) (h : DataW.Trod enc Try.prog W 0 (fun _ => true) true 51 v d p) :
    ∃ a xs cap, v = .slice a (xs : List (List Int)).length cap ∧ IsV W a xs ∧ FitsV xs := by
  obtain ⟨a0, l0, c0, rfl⟩ := okWide_slice Try.underlying51 hv
  obtain ⟨n, hn⟩ := h
  exact vecs_cell (by simpa [Value.cells] using hn)
theorem agg5 {cs : Array Value} (h : cs.size = 5) : ∃ a b c d e, cs = #[a, b, c, d, e] := by
  obtain ⟨l⟩ := cs
  match l, h with
  | [a, b, c, d, e], _ => exact ⟨a, b, c, d, e, rfl⟩
theorem rows_cells {n : Nat} {cs : List Value} {x : DataW H × List MemPlace} (h : DataW.trod enc Try.prog W 0 (fun _ => true) true n 53 cs = some x) :
    ∃ (r : R) (a0 a1 a2 : Option Addr) (c0 c1 c2 : Nat), cs = [.slice a0 r.x.length c0, .slice a1 r.g.length c1, .slice a2 r.ids.length c2, .int .i64 r.lv, .int .i64 r.l2] ∧ Rd W a0 a1 a2 r ∧ FitsR r := by
  obtain ⟨y0, y1, y2, y3, y4, m, hl, h0, h1, h2, h3, h4⟩ := trod_five Try.underlying53 h
  rw [show Try.prog.cellsOf 53 = 5 by kernel_rfl] at hl
  rw [show Try.prog.cellsOf 51 = 1 by kernel_rfl] at h0
  rw [show Try.prog.cellsOf 25 = 1 by kernel_rfl] at h1 h2
  rw [show Try.prog.cellsOf 3 = 1 by kernel_rfl] at h3 h4
  match cs, hl with
  | [u0, u1, u2, u3, u4], _ =>
    obtain ⟨a0, xs, c0, rfl, hx, hf0⟩ := vecs_cell (by simpa using h0)
    obtain ⟨a1, gs, c1, rfl, hg, hf1⟩ := ints_cell (by simpa using h1)
    obtain ⟨a2, is, c2, rfl, hi, hf2⟩ := ints_cell (by simpa using h2)
    obtain ⟨lv, rfl, _⟩ := int_cell (by simpa using h3)
    obtain ⟨l2, rfl, _⟩ := int_cell (by simpa using h4)
    unfold maxLen at hf1 hf2
    exact ⟨⟨xs, gs, is, lv, l2⟩, a0, a1, a2, c0, c1, c2, rfl, ⟨hx, hg, hi⟩, hf0, by simp only; omega, by simp only; omega⟩
theorem rows_open {base : Nat} {v : Value} {d : DataW H} {p : List MemPlace} (hv : Value.okWide Try.prog W .any base 53 v) (h : DataW.Trod enc Try.prog W 0 (fun _ => true) true 53 v d p) :
    ∃ (r : R) (a0 a1 a2 : Option Addr) (c0 c1 c2 : Nat), v = .agg #[.slice a0 r.x.length c0, .slice a1 r.g.length c1, .slice a2 r.ids.length c2, .int .i64 r.lv, .int .i64 r.l2] ∧ Rd W a0 a1 a2 r ∧ FitsR r := by
  obtain ⟨cs, rfl, hc⟩ := okWide_struct Try.underlying53 hv
  rw [show Try.prog.cellsOf 53 = 5 by kernel_rfl] at hc
  obtain ⟨u0, u1, u2, u3, u4, rfl⟩ := agg5 hc
  obtain ⟨n, hn⟩ := h
  obtain ⟨r, a0, a1, a2, c0, c1, c2, e, rest⟩ := rows_cells hn
  simp [Value.cells] at e
  obtain ⟨rfl, rfl, rfl, rfl, rfl⟩ := e
  exact ⟨r, a0, a1, a2, c0, c1, c2, rfl, rest⟩
theorem splitr_cells {n : Nat} {cs : List Value} {x : DataW H × List MemPlace} (h : DataW.trod enc Try.prog W 0 (fun _ => true) true n 54 cs = some x) :
    ∃ s : Int × Int, cs = [.int .i64 s.1, .int .i64 s.2] := by
  obtain ⟨y0, y1, m, _, hl, h0, h1⟩ := trod_struct2 Try.underlying54 h
  rw [show Try.prog.cellsOf 54 = 2 by kernel_rfl] at hl
  rw [show Try.prog.cellsOf 3 = 1 by kernel_rfl] at h0 h1
  match cs, hl with
  | [a, b], _ =>
    obtain ⟨i, rfl, hi⟩ := int_cell (by simpa using h0)
    obtain ⟨j, rfl, hj⟩ := int_cell (by simpa using h1)
    exact ⟨(i, j), rfl⟩
theorem split_open {base : Nat} {v : Value} {d : DataW H} {p : List MemPlace} (hv : Value.okWide Try.prog W .any base 54 v) (h : DataW.Trod enc Try.prog W 0 (fun _ => true) true 54 v d p) :
    ∃ f b : Int, v = .agg #[.int .i64 f, .int .i64 b] := by
  obtain ⟨cs, rfl, hc⟩ := okWide_struct Try.underlying54 hv
  rw [show Try.prog.cellsOf 54 = 2 by kernel_rfl] at hc
  obtain ⟨u, v, rfl⟩ := agg2 hc
  obtain ⟨n, hn⟩ := h
  obtain ⟨s, e⟩ := splitr_cells hn
  simp [Value.cells] at e
  obtain ⟨rfl, rfl⟩ := e
  exact ⟨s.1, s.2, rfl⟩
theorem grow_cells {n : Nat} {cs : List Value} {x : DataW H × List MemPlace} (h : DataW.trod enc Try.prog W 0 (fun _ => true) true n 62 cs = some x) :
    ∃ s : Int × Int, cs = [.int .i64 s.1, .int .i64 s.2] := by
  obtain ⟨y0, y1, m, _, hl, h0, h1⟩ := trod_struct2 Try.underlying62 h
  rw [show Try.prog.cellsOf 62 = 2 by kernel_rfl] at hl
  rw [show Try.prog.cellsOf 3 = 1 by kernel_rfl] at h0 h1
  match cs, hl with
  | [a, b], _ =>
    obtain ⟨i, rfl, hi⟩ := int_cell (by simpa using h0)
    obtain ⟨j, rfl, hj⟩ := int_cell (by simpa using h1)
    exact ⟨(i, j), rfl⟩
theorem grow_open {base : Nat} {v : Value} {d : DataW H} {p : List MemPlace} (hv : Value.okWide Try.prog W .any base 62 v) (h : DataW.Trod enc Try.prog W 0 (fun _ => true) true 62 v d p) :
    ∃ f b : Int, v = .agg #[.int .i64 f, .int .i64 b] := by
  obtain ⟨cs, rfl, hc⟩ := okWide_struct Try.underlying62 hv
  rw [show Try.prog.cellsOf 62 = 2 by kernel_rfl] at hc
  obtain ⟨u, v, rfl⟩ := agg2 hc
  obtain ⟨n, hn⟩ := h
  obtain ⟨s, e⟩ := grow_cells hn
  simp [Value.cells] at e
  obtain ⟨rfl, rfl⟩ := e
  exact ⟨s.1, s.2, rfl⟩
theorem cell_cells {n : Nat} {cs : List Value} {x : DataW H × List MemPlace} (h : DataW.trod enc Try.prog W 0 (fun _ => true) true n 114 cs = some x) :
    ∃ s : Int × Int, cs = [.int .i64 s.1, .int .i64 s.2] := by
  obtain ⟨y0, y1, m, _, hl, h0, h1⟩ := trod_struct2 Try.underlying114 h
  rw [show Try.prog.cellsOf 114 = 2 by kernel_rfl] at hl
  rw [show Try.prog.cellsOf 3 = 1 by kernel_rfl] at h0 h1
  match cs, hl with
  | [a, b], _ =>
    obtain ⟨i, rfl, hi⟩ := int_cell (by simpa using h0)
    obtain ⟨j, rfl, hj⟩ := int_cell (by simpa using h1)
    exact ⟨(i, j), rfl⟩
theorem cells_open {base : Nat} {v : Value} {d : DataW H} {p : List MemPlace} (hv : Value.okWide Try.prog W .any base 67 v) (h' : DataW.Trod enc Try.prog W 0 (fun _ => true) true 67 v d p) :
    ∃ a ps cap, v = .slice a (ps : List (Int × Int)).length cap ∧ IsP W a ps ∧ ps.length ≤ maxLen := by
  obtain ⟨a0, l0, c0, rfl⟩ := okWide_slice Try.underlying67 hv
  obtain ⟨n, hn⟩ := h'
  have h : DataW.trod enc Try.prog W 0 (fun _ => true) true n 67 [.slice a0 l0 c0] = some (d, p) := by simpa [Value.cells] using hn
  obtain ⟨v, hv'⟩ : ∃ v, Value.slice a0 l0 c0 = v := ⟨_, rfl⟩
  rw [hv'] at h ⊢
  rcases open_slice Try.underlying67 h with ⟨hcs, _⟩ | ⟨x, l, c, m, n', D, Pl, hcs, _, hl, hm, hmm, _, hx⟩
  · obtain rfl : v = _ := List.singleton_inj.1 hcs
    exact ⟨none, [], 0, rfl, .inl rfl, by simp⟩
  · obtain rfl : v = _ := List.singleton_inj.1 hcs
    have hmc : m = c := by simpa using hmm
    subst hmc
    rw [show Try.prog.cellsOf 114 = 2 by kernel_rfl] at hx
    obtain ⟨Q, hQ⟩ := pick_all (α := Int × Int) (0, 0) (m := m) (p := fun i r => W.cell? (x.add (i * 2)) = some (.int .i64 r.1) ∧ W.cell? ((x.add (i * 2)).add 1) = some (.int .i64 r.2)) (fun i hi => by
      obtain ⟨cs', h1, h2⟩ := hx i hi
      obtain ⟨s, rfl⟩ := cell_cells h2
      obtain ⟨_, _, hc⟩ := World.cells?_some h1
      have e0 := hc 0 (by omega)
      have e1 := hc 1 (by omega)
      refine ⟨s, ?_, ?_⟩
      · simpa [Addr.add] using e0
      · simpa using e1)
    refine ⟨some x, (List.range l).map Q, m, by simp, ?_, by simp; omega⟩
    by_cases h0 : l = 0
    · subst h0; exact .inl rfl
    · obtain ⟨cb, off, spot⟩ := x
      obtain ⟨c0, _⟩ := hQ 0 (by omega)
      have hs : spot = none := by simpa [Addr.add] using World.cell?_spot c0
      subst hs
      have hlt : cb < W.heap.size := World.block_lt_of_cell? W _ c0
      refine .inr ⟨cb, off, rfl, hlt, fun j hj => ?_⟩
      have hj' : j < l := by simpa using hj
      obtain ⟨e0, e1⟩ := hQ j (by omega)
      refine ⟨?_, ?_⟩
      · rw [Go.WideShapes.add_plain] at e0; simpa using e0
      · rw [Go.WideShapes.add_plain, Go.WideShapes.add_plain] at e1; simpa using e1
end
end Go.Proofs.Ytbnjbmajfadmaaa.Op
