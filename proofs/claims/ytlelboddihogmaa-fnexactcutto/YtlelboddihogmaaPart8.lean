/-
  Contracts that the proof leans on, put together in the order in which they build.
-/
import Derived.Test.YtlelboddihogmaaPart6
import Derived.Test.YtlelboddihogmaaPart7
import Derived.ProofKit
import Derived.ChangeSame
import Derived.Deep.Strs
import Derived.Deep.Slices
import Derived.Test.YtlelboddihogmaaRows
import Derived.OrdersHeld
import Derived.WalkKit
import Derived.Test.YtlelboddihogmaaPart1
import Derived.Deep.AppendLies
import Derived.Deep.RegionLaw
import Derived.Deep.RegionWith
import Derived.Test.YtlelboddihogmaaPart4
/-
  The arguments of the laws over trees, opened: a tree, a list of nodes, a list of trees that came in, out of what the row's reader read of them.
-/
namespace Go.Proofs.Ytlelboddihogmaa.Op
open Go.ChangeShapes Go.WideShapes Go.Deep Go.RowKit
open Go.Proofs.Ytlelboddihogmaa.Tm
set_option maxRecDepth 10000

section
variable {H : Type} {enc : TypeId × Value → H} {W : World}
theorem pick_any {α : Type} (d : α) {m : Nat} {p : Nat → α → Prop} (h : ∀ i, i < m → ∃ r, p i r) : ∃ R : Nat → α, ∀ i, i < m → p i (R i) := by
  have : ∀ i, ∃ r, i < m → p i r := fun i => by
    by_cases hi : i < m
    · obtain ⟨r, hr⟩ := h i hi; exact ⟨r, fun _ => hr⟩
    · exact ⟨d, fun h => absurd h hi⟩
  exact ⟨fun i => (this i).choose, fun i hi => (this i).choose_spec hi⟩
theorem split_cells {n : Nat} {cs : List Value} {x : DataW H × List MemPlace} (h : DataW.trod enc Try.prog W 0 (fun _ => true) true n 102 cs = some x) :
    ∃ s : Int × Int, cs = [.int .i64 s.1, .int .i64 s.2] := by
  obtain ⟨y0, y1, m, _, hl, h0, h1⟩ := trod_struct2 Try.underlying102 h
  rw [show Try.prog.cellsOf 102 = 2 by kernel_rfl] at hl
  rw [show Try.prog.cellsOf 3 = 1 by kernel_rfl] at h0 h1
  match cs, hl with
  | [a, b], _ =>
    obtain ⟨i, rfl, hi⟩ := int_cell (by simpa using h0)
    obtain ⟨j, rfl, hj⟩ := int_cell (by simpa using h1)
    exact ⟨(i, j), rfl⟩
theorem splits_cell {n : Nat} {v : Value} {x : DataW H × List MemPlace} (h : DataW.trod enc Try.prog W 0 (fun _ => true) true n 63 [v] = some x) :
    ∃ a ps cap, v = .slice a (ps : List (Int × Int)).length cap ∧ IsP W a ps ∧ ps.length ≤ maxLen := by
  rcases open_slice Try.underlying63 h with ⟨hcs, _⟩ | ⟨x, l, c, m, n', D, Pl, hcs, _, hl, hm, hmm, _, hx⟩
  · obtain rfl : v = _ := List.singleton_inj.1 hcs
    exact ⟨none, [], 0, rfl, .inl rfl, by simp⟩
  · obtain rfl : v = _ := List.singleton_inj.1 hcs
    have hmc : m = c := by simpa using hmm
    subst hmc
    rw [show Try.prog.cellsOf 102 = 2 by kernel_rfl] at hx
    obtain ⟨R, hR⟩ := pick_any (α := Int × Int) (0, 0) (m := m) (p := fun i r => W.cell? (x.add (i * 2)) = some (.int .i64 r.1) ∧ W.cell? ((x.add (i * 2)).add 1) = some (.int .i64 r.2)) (fun i hi => by
      obtain ⟨cs', h1, h2⟩ := hx i hi
      obtain ⟨s, rfl⟩ := split_cells h2
      obtain ⟨_, _, hc⟩ := World.cells?_some h1
      have e0 := hc 0 (by omega)
      have e1 := hc 1 (by omega)
      refine ⟨s, ?_, ?_⟩
      · simpa [Addr.add] using e0
      · simpa using e1)
    refine ⟨some x, (List.range l).map R, m, by simp, ?_, by simp; omega⟩
    by_cases h0 : l = 0
    · subst h0; exact .inl rfl
    · obtain ⟨cb, off, spot⟩ := x
      obtain ⟨c0, _⟩ := hR 0 (by omega)
      have hs : spot = none := by simpa [Addr.add] using World.cell?_spot c0
      subst hs
      have hlt : cb < W.heap.size := World.block_lt_of_cell? W _ c0
      refine .inr ⟨cb, off, rfl, hlt, fun j hj => ?_⟩
      have hj' : j < l := by simpa using hj
      obtain ⟨e0, e1⟩ := hR j (by omega)
      refine ⟨?_, ?_⟩
      · rw [Go.WideShapes.add_plain] at e0; simpa using e0
      · rw [Go.WideShapes.add_plain, Go.WideShapes.add_plain] at e1; simpa using e1
theorem tree_cells {n : Nat} {cs : List Value} {x : DataW H × List MemPlace} (h : DataW.trod enc Try.prog W 0 (fun _ => true) true n 65 cs = some x) :
    ∃ (t : Tr.T) (a a' : Option Addr) (c c' : Nat), cs = [.slice a t.sp.length c, .slice a' t.lv.length c'] ∧ IsP W a t.sp ∧ Li.IsL W a' t.lv ∧ t.sp.length ≤ maxLen ∧ t.lv.length ≤ maxLen := by
  obtain ⟨y0, y1, m, _, hl, h0, h1⟩ := trod_struct2 Try.underlying65 h
  rw [show Try.prog.cellsOf 65 = 2 by kernel_rfl] at hl
  rw [show Try.prog.cellsOf 63 = 1 by kernel_rfl] at h0
  rw [show Try.prog.cellsOf 47 = 1 by kernel_rfl] at h1
  match cs, hl with
  | [u, v], _ =>
    obtain ⟨a, ps, c, rfl, hp, hl0⟩ := splits_cell (by simpa using h0)
    obtain ⟨a', xs, c', rfl, hx, hl1⟩ := ints_cell (by simpa using h1)
    exact ⟨⟨ps, xs⟩, a, a', c, c', rfl, hp, hx, hl0, hl1⟩
theorem tree_open {base : Nat} {v : Value} {d : DataW H} {p : List MemPlace} (hv : Value.okWide Try.prog W .any base 65 v) (h : DataW.Trod enc Try.prog W 0 (fun _ => true) true 65 v d p) :
    ∃ (t : Tr.T) (a a' : Option Addr) (c c' : Nat), v = .agg #[.slice a t.sp.length c, .slice a' t.lv.length c'] ∧ IsP W a t.sp ∧ Li.IsL W a' t.lv ∧ t.sp.length ≤ maxLen ∧ t.lv.length ≤ maxLen := by
  obtain ⟨cs, rfl, hc⟩ := okWide_struct Try.underlying65 hv
  rw [show Try.prog.cellsOf 65 = 2 by kernel_rfl] at hc
  obtain ⟨u, v, rfl⟩ := agg2 hc
  obtain ⟨n, hn⟩ := h
  obtain ⟨t, a, a', c, c', e, r⟩ := tree_cells hn
  simp [Value.cells] at e
  obtain ⟨rfl, rfl⟩ := e
  exact ⟨t, a, a', c, c', rfl, r⟩
theorem trees_cell {n : Nat} {v : Value} {x : DataW H × List MemPlace} (h : DataW.trod enc Try.prog W 0 (fun _ => true) true n 25 [v] = some x) :
    ∃ a ts cap, v = .slice a (ts : List Tr.T).length cap ∧ IsT W a ts ∧ FitsT ts := by
  rcases open_slice Try.underlying25 h with ⟨hcs, _⟩ | ⟨x, l, c, m, n', D, Pl, hcs, _, hl, hm, hmm, _, hx⟩
  · obtain rfl : v = _ := List.singleton_inj.1 hcs
    exact ⟨none, [], 0, rfl, .inl rfl, ⟨by simp, fun j hj => by simp at hj⟩⟩
  · obtain rfl : v = _ := List.singleton_inj.1 hcs
    have hmc : m = c := by simpa using hmm
    subst hmc
    rw [show Try.prog.cellsOf 65 = 2 by kernel_rfl] at hx
    obtain ⟨R, hR⟩ := pick_any (α := Tr.T) ⟨[], []⟩ (m := m) (p := fun i t => ∃ v0 v1, W.cell? (x.add (i * 2)) = some v0 ∧ W.cell? ((x.add (i * 2)).add 1) = some v1 ∧ TrIs W v0 v1 t ∧ t.sp.length ≤ maxLen ∧ t.lv.length ≤ maxLen) (fun i hi => by
      obtain ⟨cs', h1, h2⟩ := hx i hi
      obtain ⟨t, a, a', c, c', rfl, hp, hx, hl0, hl1⟩ := tree_cells h2
      obtain ⟨_, _, hc⟩ := World.cells?_some h1
      have e0 := hc 0 (by omega)
      have e1 := hc 1 (by omega)
      refine ⟨t, _, _, ?_, ?_, ⟨a, c, a', c', rfl, rfl, hp, hx⟩, hl0, hl1⟩
      · simpa [Addr.add] using e0
      · simpa using e1)
    unfold maxLen at hm
    refine ⟨some x, (List.range l).map R, m, by simp, ?_, ⟨by simp; omega, fun j hj => ?_⟩⟩
    · by_cases h0 : l = 0
      · subst h0; exact .inl rfl
      · obtain ⟨cb, off, spot⟩ := x
        obtain ⟨_, _, c0, _⟩ := hR 0 (by omega)
        have hs : spot = none := by simpa [Addr.add] using World.cell?_spot c0
        subst hs
        have hlt : cb < W.heap.size := World.block_lt_of_cell? W _ c0
        refine .inr ⟨cb, off, rfl, hlt, fun j hj => ?_⟩
        have hj' : j < l := by simpa using hj
        obtain ⟨v0, v1, e0, e1, hr, _⟩ := hR j (by omega)
        refine ⟨v0, v1, ⟨?_, ?_⟩, by simpa using hr⟩
        · rwa [Go.WideShapes.add_plain] at e0
        · rwa [Go.WideShapes.add_plain, Go.WideShapes.add_plain] at e1
    · have hj' : j < l := by simpa using hj
      obtain ⟨_, _, _, _, _, hf0, hf1⟩ := hR j (by omega)
      unfold maxLen at hf0 hf1
      simp only [List.getElem_map, List.getElem_range]
      omega
theorem trees_open {base : Nat} {v : Value} {d : DataW H} {p : List MemPlace} (hv : Value.okWide Try.prog W .any base 25 v) (h : DataW.Trod enc Try.prog W 0 (fun _ => true) true 25 v d p) :
    ∃ a ts cap, v = .slice a (ts : List Tr.T).length cap ∧ IsT W a ts ∧ FitsT ts := by
  obtain ⟨a0, l0, c0, rfl⟩ := okWide_slice Try.underlying25 hv
  obtain ⟨n, hn⟩ := h
  exact trees_cell (by simpa [Value.cells] using hn)
end
end Go.Proofs.Ytlelboddihogmaa.Op
/-
  A model that was read of a law's arguments, opened.
-/
namespace Go.Proofs.Ytlelboddihogmaa.Op
open Go.ChangeShapes Go.WideShapes Go.Deep Go.RowKit
open Go.Proofs.Ytlelboddihogmaa.Kt (Kv IsK)
open Go.Proofs.Ytlelboddihogmaa.Tm (IsT)
set_option maxRecDepth 10000
section
variable {H : Type} {enc : TypeId × Value → H} {W : World}
theorem tab_cells {n : Nat} {cs : List Value} {x : DataW H × List MemPlace} (h : DataW.trod enc Try.prog W 0 (fun _ => true) true n 61 cs = some x) :
    ∃ t : Kv, ∃ a c d e, cs = [.slice a t.ws.length c, .slice d t.vs.length e] ∧ Ls.IsS W a t.ws ∧ Li.IsL W d t.vs ∧ t.ws.length ≤ maxLen ∧ Tb.Fits t.ws ∧ t.vs.length ≤ maxLen := by
  obtain ⟨y0, y1, m, _, hl, h0, h1⟩ := trod_struct2 Try.underlying61 h
  rw [show Try.prog.cellsOf 61 = 2 by kernel_rfl] at hl
  rw [show Try.prog.cellsOf 46 = 1 by kernel_rfl] at h0
  rw [show Try.prog.cellsOf 47 = 1 by kernel_rfl] at h1
  match cs, hl with
  | [v0, v1], _ =>
    obtain ⟨a0, ps, c0, rfl, i0, l0, f0⟩ := strs_cell (by simpa using h0)
    obtain ⟨a1, xs, c1, rfl, i1, l1⟩ := ints_cell (by simpa using h1)
    exact ⟨⟨ps, xs⟩, _, _, _, _, rfl, i0, i1, l0, f0, l1⟩
theorem tabs_cell {n : Nat} {v : Value} {x : DataW H × List MemPlace} (h : DataW.trod enc Try.prog W 0 (fun _ => true) true n 24 [v] = some x) :
    ∃ a ts cap, v = .slice a (ts : List Kv).length cap ∧ IsK W a ts ∧ Kt.FitsK ts := by
  rcases open_slice Try.underlying24 h with ⟨hcs, _⟩ | ⟨x, l, c, m, n', D, Pl, hcs, _, hl, hm, hmm, _, hx⟩
  · obtain rfl : v = _ := List.singleton_inj.1 hcs
    exact ⟨none, [], 0, rfl, .inl rfl, ⟨by simp, fun j hj => by simp at hj⟩⟩
  · obtain rfl : v = _ := List.singleton_inj.1 hcs
    have hmc : m = c := by simpa using hmm
    subst hmc
    rw [show Try.prog.cellsOf 61 = 2 by kernel_rfl] at hx
    obtain ⟨R, hR⟩ := pick_any (α := Kv) ⟨[], []⟩ (m := m) (p := fun i t => ∃ a0 c0 a1 c1, W.cell? (x.add (i * 2)) = some (.slice a0 t.ws.length c0) ∧ W.cell? ((x.add (i * 2)).add 1) = some (.slice a1 t.vs.length c1) ∧ Ls.IsS W a0 t.ws ∧ Li.IsL W a1 t.vs ∧ t.ws.length ≤ maxLen ∧ Tb.Fits t.ws ∧ t.vs.length ≤ maxLen) (fun i hi => by
      obtain ⟨cs', h1, h2⟩ := hx i hi
      obtain ⟨t, a, c, a', c', rfl, hp, hx, hl0, hf0, hl1⟩ := tab_cells h2
      obtain ⟨_, _, hc⟩ := World.cells?_some h1
      have e0 := hc 0 (by omega)
      have e1 := hc 1 (by omega)
      refine ⟨t, a, c, a', c', ?_, ?_, hp, hx, hl0, hf0, hl1⟩
      · simpa [Addr.add] using e0
      · simpa using e1)
    unfold maxLen at hm
    refine ⟨some x, (List.range l).map R, m, by simp, ?_, ⟨by simp; omega, fun j hj => ?_⟩⟩
    · by_cases h0 : l = 0
      · subst h0; exact .inl rfl
      · obtain ⟨cb, off, spot⟩ := x
        obtain ⟨_, _, _, _, c0, _⟩ := hR 0 (by omega)
        have hs : spot = none := by simpa [Addr.add] using World.cell?_spot c0
        subst hs
        have hlt : cb < W.heap.size := World.block_lt_of_cell? W _ c0
        refine .inr ⟨cb, off, rfl, hlt, fun j hj => ?_⟩
        have hj' : j < l := by simpa using hj
        obtain ⟨a0, c0, a1, c1, e0, e1, i0, i1, _⟩ := hR j (by omega)
        simp only [List.getElem_map, List.getElem_range]
        refine ⟨a0, c0, a1, c1, ⟨?_, ?_⟩, i0, i1⟩
        · rwa [Go.WideShapes.add_plain] at e0
        · rwa [Go.WideShapes.add_plain, Go.WideShapes.add_plain] at e1
    · have hj' : j < l := by simpa using hj
      obtain ⟨_, _, _, _, _, _, _, _, hf0, hf1, hf2⟩ := hR j (by omega)
      unfold maxLen at hf0 hf2
      simp only [List.getElem_map, List.getElem_range]
      exact ⟨by omega, hf1, by omega⟩
theorem trod_five {P : Program} {w : World} {base : Nat} {spare : Nat → Bool} {held : Bool} {t : TypeId} {f0 f1 f2 f3 f4 : Field} {fuel : Nat} {cs : List Value} {x : DataW H × List MemPlace} (ht : P.underlying t = some (.struct #[f0, f1, f2, f3, f4])) (h : DataW.trod enc P w base spare held fuel t cs = some x) :
    ∃ y0 y1 y2 y3 y4 n, cs.length = P.cellsOf t ∧ DataW.trod enc P w base spare held n f0.type ((cs.drop f0.offset).take (P.cellsOf f0.type)) = some y0 ∧ DataW.trod enc P w base spare held n f1.type ((cs.drop f1.offset).take (P.cellsOf f1.type)) = some y1 ∧ DataW.trod enc P w base spare held n f2.type ((cs.drop f2.offset).take (P.cellsOf f2.type)) = some y2 ∧ DataW.trod enc P w base spare held n f3.type ((cs.drop f3.offset).take (P.cellsOf f3.type)) = some y3 ∧ DataW.trod enc P w base spare held n f4.type ((cs.drop f4.offset).take (P.cellsOf f4.type)) = some y4 := by
  obtain ⟨xs, n, _, rfl, hl, hlen, hf⟩ := DataW.trod_struct ht h
  match xs, hlen with
  | [y0, y1, y2, y3, y4], _ => exact ⟨y0, y1, y2, y3, y4, n, hl, by simpa using hf 0 f0 rfl, by simpa using hf 1 f1 rfl, by simpa using hf 2 f2 rfl, by simpa using hf 3 f3 rfl, by simpa using hf 4 f4 rfl⟩
theorem agg6 {cs : Array Value} (h : cs.size = 6) : ∃ a b c d e f, cs = #[a, b, c, d, e, f] := by
  obtain ⟨l⟩ := cs
  match l, h with
  | [a, b, c, d, e, f], _ => exact ⟨a, b, c, d, e, f, rfl⟩
theorem model_cells {n : Nat} {cs : List Value} {x : DataW H × List MemPlace} (h : DataW.trod enc Try.prog W 0 (fun _ => true) true n 27 cs = some x) :
    ∃ m : Md.M, ∃ ak ck ax ct, cs = [.int .i64 m.n, .int .i64 m.c, .int .i64 m.prior, .int .i64 m.base, .slice ak m.ks.length ck, .slice ax m.ts.length ct] ∧ Md.Rm W ak ax m ∧ Md.FitsM m := by
  obtain ⟨y0, y1, y2, y3, y4, m, hl, h0, h1, h2, h3, h4⟩ := trod_five Try.underlying27 h
  rw [show Try.prog.cellsOf 27 = 6 by kernel_rfl] at hl
  rw [show Try.prog.cellsOf 23 = 2 by kernel_rfl] at h0
  rw [show Try.prog.cellsOf 3 = 1 by kernel_rfl] at h1 h2
  rw [show Try.prog.cellsOf 24 = 1 by kernel_rfl] at h3
  rw [show Try.prog.cellsOf 25 = 1 by kernel_rfl] at h4
  match cs, hl with
  | [a0, a1, a2, a3, a4, a5], _ =>
    obtain ⟨i0, i1, e, _⟩ := schema_cells (by simpa using h0)
    simp at e
    obtain ⟨rfl, rfl⟩ := e
    obtain ⟨i2, rfl, _⟩ := int_cell (by simpa using h1)
    obtain ⟨i3, rfl, _⟩ := int_cell (by simpa using h2)
    obtain ⟨ak, ks, ck, rfl, hk, fk⟩ := tabs_cell (by simpa using h3)
    obtain ⟨ax, ts, ct, rfl, ht, ft⟩ := trees_cell (by simpa using h4)
    exact ⟨⟨i0, i1, i2, i3, ks, ts⟩, ak, ck, ax, ct, rfl, ⟨hk, ht⟩, fk, ft⟩
theorem model_open {base : Nat} {v : Value} {d : DataW H} {p : List MemPlace} (hv : Value.okWide Try.prog W .any base 27 v) (h : DataW.Trod enc Try.prog W 0 (fun _ => true) true 27 v d p) :
    ∃ m : Md.M, ∃ ak ck ax ct, v = .agg #[.int .i64 m.n, .int .i64 m.c, .int .i64 m.prior, .int .i64 m.base, .slice ak m.ks.length ck, .slice ax m.ts.length ct] ∧ Md.Rm W ak ax m ∧ Md.FitsM m := by
  obtain ⟨cs, rfl, hc⟩ := okWide_struct Try.underlying27 hv
  rw [show Try.prog.cellsOf 27 = 6 by kernel_rfl] at hc
  obtain ⟨u0, u1, u2, u3, u4, u5, rfl⟩ := agg6 hc
  obtain ⟨n, hn⟩ := h
  obtain ⟨m, ak, ck, ax, ct, e, hm, hf⟩ := model_cells hn
  simp [Value.cells] at e
  obtain ⟨rfl, rfl, rfl, rfl, rfl, rfl⟩ := e
  exact ⟨m, ak, ck, ax, ct, rfl, hm, hf⟩
end
end Go.Proofs.Ytlelboddihogmaa.Op
/-
  Models, further: the marks that the laws write, and whether they are held.
-/
namespace Go.Proofs.Ytlelboddihogmaa.Md
set_option maxRecDepth 20000
open Go.RowKit
open Go.Proofs.Ytlelboddihogmaa.Tm (IsT szT)
open Go.Proofs.Ytlelboddihogmaa.Kt (Kv IsK OwK ksz)
open Go.Proofs.Ytlelboddihogmaa.To (OwT)
open Go.Proofs.Ytlelboddihogmaa.Sv (Fr fr_below fr_grown new1 Wr)
set_option linter.unusedVariables false
def mm (q : Int) (m : M) : M := ⟨m.n, m.c, m.prior, m.base, Kt.kmarks q m.ks, To.kmarks (q + Kt.ktot m.ks) m.ts⟩
def wt (m : M) : Nat := Kt.ktot m.ks + To.ktot m.ts
theorem wt_le (m : M) : wt m ≤ 2 * m.sz := by
  unfold wt M.sz
  have := Kt.ktot_ksz m.ks
  have := To.ktot_sz m.ts
  omega
set_option maxHeartbeats 2000000 in
theorem markModel (w : World) (B : Nat → Prop) (vk vt : Value) (q : Int) (m : M) (h : OwM w B vk vt m) (hl : m.sz ≤ 1048576) (k0 : 0 ≤ q) (k1 : q ≤ 10000000000) :
    Calls Try.prog 9 #[.agg #[.int .i64 m.n, .int .i64 m.c, .int .i64 m.prior, .int .i64 m.base, vk, vt], .int .i64 q] w fun e w' => e = .returned (.int .i64 (q + wt m)) ∧ OwM w' B vk vt (mm q m) ∧ Fr B w w' := by
  have hwt : (wt m : Int) = (Kt.ktot m.ks : Int) + (To.ktot m.ts : Int) := by unfold wt; omega
  have HWT : Hid (type_of% hwt) := hwt
  unfold M.sz at hl
  have hks := Kt.ktot_ksz m.ks
  have hts := To.ktot_sz m.ts
  clear hwt
  obtain ⟨ak, ck, ax, ct, rfl, rfl, _⟩ := h.rm
  obtain ⟨P, h0, h1⟩ := h.bound
  go_enter Try.func9, Try.ntmps9
  go_wp2_with fail
  obtain ⟨W, hW, hsz, hB, bx⟩ := new1 w [.int .i64 m.n, .int .i64 m.c, .int .i64 m.prior, .int .i64 m.base, .slice ak m.ks.length ck, .slice ax m.ts.length ct] 33
  rw [hW]
  clear hW
  refine (Kt.markTabs _ _ _ _ m.ks (h0.below hB) (by omega) k0 (by omega)).mono ?_
  rintro e w1 ⟨rfl, o0, hf⟩
  have bx := bx.keptAt hf.size (hf.block _ bx.1 (fun e => by omega))
  have h1 := (h1.below hB).fr hf (fun k e e' => e.2 e'.2)
  have hF : Fr B w w1 := (fr_below hB).trans (hf.mono (fun k e => e.1.1))
  clear hf hsz hB h0
  obtain ⟨_, ⟨x0, x1, x2, x3, x4, x5⟩, _⟩ := wr6 bx
  obtain ⟨Q, hQ⟩ : ∃ Q : Int, q + (Kt.ktot m.ks : Int) = Q := ⟨_, rfl⟩
  have HQ : Hid (q + (Kt.ktot m.ks : Int) = Q) := hQ
  rw [hQ]
  have hQ0 : 0 ≤ Q := by omega
  have hQ1 : Q ≤ 20000000000 := by omega
  clear hQ
  go_wp2_with fail
  refine (To.markTreesO _ _ _ _ m.ts h1 (by omega) hQ0 (by omega)).mono ?_
  rintro e w2 ⟨rfl, o1, hf⟩
  have o0 := o0.fr hf (fun k e e' => e'.2 e.2)
  have hF : Fr B w w2 := hF.trans (hf.mono (fun k e => e.1.1))
  have HO : Hid (OwM w2 B (.slice ak m.ks.length ck) (.slice ax m.ts.length ct) (mm q m)) := by
    refine ⟨P, o0.mono (fun k e => ⟨e.1.1, e.2⟩), ?_⟩
    unfold mm
    rw [HQ.out]
    exact o1.mono (fun k e => ⟨e.1.1, e.2⟩)
  have HN : Hid (Q + (To.ktot m.ts : Int) = q + (wt m : Int)) := by show _ = _; rw [HWT.out]; have := HQ.out; omega
  clear hf o0 o1 h1 bx x0 x1 x2 x3 x4 x5
  rw [HN.out]
  go_wp2
  go_ret
  exact ⟨rfl, HO.out, hF⟩
set_option maxHeartbeats 2000000 in
theorem heldModel (w : World) (ak ax : Option Addr) (ck ct : Nat) (q : Int) (m : M) (h : Rm w ak ax (mm q m)) (hl : m.sz ≤ 1048576) (k0 : 0 ≤ q) (k1 : q ≤ 10000000000) :
    Calls Try.prog 10 #[.agg #[.int .i64 m.n, .int .i64 m.c, .int .i64 m.prior, .int .i64 m.base, .slice ak m.ks.length ck, .slice ax m.ts.length ct], .int .i64 q] w fun e w' => e = .returned (.int .i64 (q + wt m)) ∧ Below w.heap.size w w' := by
  have hwt : (wt m : Int) = (Kt.ktot m.ks : Int) + (To.ktot m.ts : Int) := by unfold wt; omega
  have HWT : Hid (type_of% hwt) := hwt
  unfold M.sz at hl
  have hks := Kt.ktot_ksz m.ks
  have hts := To.ktot_sz m.ts
  clear hwt
  have h0 : IsK w ak (Kt.kmarks q m.ks) := h.k
  have h1 : IsT w ax (To.kmarks (q + Kt.ktot m.ks) m.ts) := h.t
  clear h
  go_enter Try.func10, Try.ntmps10
  go_wp2_with fail
  obtain ⟨W, hW, hsz, hB, bx⟩ := new1 w [.int .i64 m.n, .int .i64 m.c, .int .i64 m.prior, .int .i64 m.base, .slice ak m.ks.length ck, .slice ax m.ts.length ct] 33
  rw [hW]
  clear hW
  refine (Kt.heldTabs _ _ _ _ _ m.ks rfl (h0.below hB) (by omega) k0 (by omega)).mono ?_
  rintro e w1 ⟨rfl, hb⟩
  have bx := bx.below hb
  have hB := hB.trans (hb.mono hB.size)
  clear hb hsz h0
  obtain ⟨_, ⟨x0, x1, x2, x3, x4, x5⟩, _⟩ := wr6 bx
  obtain ⟨Q, hQ⟩ : ∃ Q : Int, q + (Kt.ktot m.ks : Int) = Q := ⟨_, rfl⟩
  have HQ : Hid (q + (Kt.ktot m.ks : Int) = Q) := hQ
  rw [hQ] at h1 ⊢
  have hQ0 : 0 ≤ Q := by omega
  have hQ1 : Q ≤ 20000000000 := by omega
  clear hQ
  have hneg : ¬ Q < 0 := by omega
  go_wp2_with fail
  refine (To.heldTreesO _ _ _ _ _ m.ts rfl (h1.below hB) (by omega) hQ0 (by omega)).mono ?_
  rintro e w2 ⟨rfl, hb⟩
  have hB := hB.trans (hb.mono hB.size)
  have HN : Hid (Q + (To.ktot m.ts : Int) = q + (wt m : Int)) := by show _ = _; rw [HWT.out]; have := HQ.out; omega
  clear hb h1 bx x0 x1 x2 x3 x4 x5
  rw [HN.out]
  have hneg2 : ¬ q + (wt m : Int) < 0 := by omega
  go_wp2
  go_ret
  exact ⟨rfl, hB⟩
end Go.Proofs.Ytlelboddihogmaa.Md
/-
  Small readings for the laws over models: a list of the call's own under a frame; a variable of three cells; marks of a row.
-/
namespace Go.Proofs.Ytlelboddihogmaa.Md
set_option maxRecDepth 20000
open Go.RowKit
open Go.Proofs.Ytlelboddihogmaa.Tb (ownsRow_at Row RowIs)
open Go.Proofs.Ytlelboddihogmaa.Sv (Fr fr_below fr_grown new1 Wr)
set_option linter.unusedVariables false
theorem own_fr {w w1 : World} {B : Nat → Prop} {base : Nat} {v : Value} {xs : List Int} (h : Li.Own w base v xs) (hf : Fr B w w1) (hd : ∀ k, v.ownBlock = some k → ¬ B k) : Li.Own w1 base v xs := ownsRow_at h (fun k e => hf.block k (h.ge k e).2 (hd k e))
theorem fr_own {w w1 : World} {B : Nat → Prop} {v : Value} (h : w.grownBy w1 v.ownBlock) (hB : ∀ k, v.ownBlock = some k → B k) : Fr B w w1 := ⟨h.os, h.tape, h.output, h.size, fun k hk hn => h.block k hk (fun e => hn (hB k e.symm))⟩
theorem wr3 {w : World} {b : Nat} {v0 v1 v2 : Value} (h : Wr w b 0 [v0, v1, v2]) : b < w.heap.size ∧ (w.cell? ⟨b, 0, none⟩ = some v0 ∧ w.cell? ⟨b, 1, none⟩ = some v1 ∧ w.cell? ⟨b, 2, none⟩ = some v2) ∧ w.frozen? ⟨b, 0, none⟩ = false ∧ w.frozen? ⟨b, 1, none⟩ = false ∧ w.frozen? ⟨b, 2, none⟩ = false :=
  ⟨h.1, ⟨(h.2 0 (by simp)).1, (h.2 1 (by simp)).1, (h.2 2 (by simp)).1⟩, (h.2 0 (by simp)).2, (h.2 1 (by simp)).2, (h.2 2 (by simp)).2⟩
/-- A row of the call's own. -/
def OwR (w : World) (B : Nat → Prop) (u0 u1 : Value) (r : Row) : Prop := (∃ b, Li.Own w b u0 r.nums) ∧ (∃ b, Ls.Own w b u1 r.cats) ∧ (∀ k, u0.ownBlock = some k → B k ∧ u1.ownBlock ≠ some k) ∧ ∀ k, u1.ownBlock = some k → B k
theorem OwR.fr {w w1 : World} {B B' : Nat → Prop} {u0 u1 : Value} {r : Row} (h : OwR w B u0 u1 r) (hf : Fr B' w w1) (hd : ∀ k, B k → ¬ B' k) : OwR w1 B u0 u1 r := by
  obtain ⟨⟨b0, h0⟩, ⟨b1, h1⟩, hs, ht⟩ := h
  exact ⟨⟨b0, own_fr h0 hf (fun k e => hd k (hs k e).1)⟩, ⟨b1, ownsRow_at h1 (fun k e => hf.block k (h1.ge k e).2 (hd k (ht k e)))⟩, hs, ht⟩
theorem OwR.below {w w1 : World} {B : Nat → Prop} {u0 u1 : Value} {r : Row} (h : OwR w B u0 u1 r) (hb : Below w.heap.size w w1) : OwR w1 B u0 u1 r := h.fr (fr_below (B := fun _ => False) hb) (fun _ _ e => e)
theorem OwR.row {w : World} {B : Nat → Prop} {u0 u1 : Value} {r : Row} (h : OwR w B u0 u1 r) : RowIs w u0 u1 (.int .i64 r.label) r := by
  obtain ⟨⟨b0, h0⟩, ⟨b1, h1⟩, _⟩ := h
  obtain ⟨a0, c0, e0, i0⟩ := h0.isl
  obtain ⟨a1, c1, e1, i1⟩ := h1.iss
  exact ⟨a0, c0, a1, c1, e0, e1, rfl, i0, i1⟩
end Go.Proofs.Ytlelboddihogmaa.Md
/-
  A region that draws its order, of whose operations one (d) writes what others read, and waits for them: a condition on the world holds behind every operation that comes up ahead of d.
-/
namespace Go.Proofs.Ytlelboddihogmaa.Hd
variable {P : Program} {ops : Array Oper} {Q : Exit → Act → World → Prop} {md : Region.Mode} {S : World → Prop} {d : Nat}

/-- Whatever comes up from here on; as long as d has not come, the condition S holds. -/
def After (P : Program) (md : Region.Mode) (ops : Array Oper) (Q : Exit → Act → World → Prop) (S : World → Prop) (d : Nat) : Nat → Array Bool → Act → World → Prop
  | 0, l, a, w => Region.ready md ops l = [] ∧ Q .normal a w
  | n + 1, l, a, w => (Region.ready md ops l = [] → Q .normal a w) ∧ ∀ j ∈ Region.ready md ops l, wpOp P ops Q j (fun a' w' => ((l.setIfInBounds j true).getD d true = false → S w') ∧ After P md ops Q S d n (l.setIfInBounds j true) a' w') a w
theorem After.any : ∀ {n : Nat} {l : Array Bool} {a : Act} {w : World}, After P md ops Q S d n l a w → wpAny P md ops Q n l a w
  | 0, _, _, _, h => h
  | _ + 1, _, _, _, h => ⟨h.1, fun j hj => wpOp_mono (fun _ _ h' => h'.2.any) (h.2 j hj)⟩
/-- Who may come up does not wait for one that has not come. -/
theorem not_waiting {i j : Nat} {l : Array Bool} {oj : Oper} (hu : l.getD i true = false) (hj : j ∈ Region.ready md ops l) (ho : ops[j]? = some oj) (e : Edge) (he : e ∈ oj.after) (hb : Region.binds md e = true) : e.on ≠ i := by
  intro heq
  obtain ⟨_, o', ho', hall⟩ := mem_ready.1 hj
  obtain rfl : oj = o' := Option.some.inj (ho.symm.trans ho')
  have h1 := hall e he hb
  rw [heq, Array.getD_eq_getD_getElem?] at h1
  rw [Array.getD_eq_getD_getElem?] at hu
  cases hl : l[i]? with
  | none => rw [hl] at h1; simp at h1
  | some x => rw [hl] at h1 hu; simp at h1 hu; rw [h1] at hu; cases hu
/-- d waits for i. -/
def Waits (md : Region.Mode) (ops : Array Oper) (d i : Nat) : Bool := match ops[d]? with | some o => o.after.any fun e => Region.binds md e && e.on == i | none => false
theorem waits_ne {i j : Nat} {l : Array Bool} (hw : Waits md ops d i = true) (hu : l.getD i true = false) (hj : j ∈ Region.ready md ops l) : j ≠ d := by
  rintro rfl
  unfold Waits at hw
  split at hw
  · rename_i o ho
    rw [Array.any_eq_true'] at hw
    obtain ⟨e, he, hx⟩ := hw
    simp at hx
    exact not_waiting hu hj ho e he hx.1 hx.2
  · cases hw
/-- Who has not come up yet, and does not wait for i, lies apart from it. -/
def Clear (md : Region.Mode) (ops : Array Oper) (oi : Oper) (i : Nat) (l : Array Bool) : Prop := ∀ j oj, ops[j]? = some oj → j ≠ i → l.getD j true = false → (∀ e ∈ oj.after, Region.binds md e = true → e.on ≠ i) → oi.apart ops oj = true
theorem Clear.set {oi : Oper} {i j : Nat} {l : Array Bool} (h : Clear md ops oi i l) (hj : l.getD j true = false) : Clear md ops oi i (l.setIfInBounds j true) := by
  intro k ok hk hki hku hno
  refine h k ok hk hki ?_ hno
  by_cases ejk : j = k
  · subst ejk; exact hj
  · rwa [getD_set_ne true ejk] at hku
/-- One that yields its value wherever S holds, and for which d waits, may be taken first. -/
theorem After.take_first {i : Nat} {oi : Oper} {v : Value} (hi : ops[i]? = some oi) (hs : Region.noSelect ops = true) (hQ : ∀ c a w, Q (.panic c) (a.put oi.dst v) w → Q (.panic c) a w) (hw : Waits md ops d i = true) :
    ∀ (n : Nat) {l : Array Bool} {a : Act} {w : World}, Clear md ops oi i l → i ∈ Region.ready md ops l → YieldsIf P ops S oi v a → l.getD d true = false → S w → After P md ops Q S d n (l.setIfInBounds i true) (a.put oi.dst v) w → After P md ops Q S d (n + 1) l a w := by
  intro n
  induction n with
  | zero =>
    intro l a w _ hr hy _ hS h
    constructor
    · intro h0; rw [h0] at hr; exact absurd hr (by simp)
    · intro j hj
      have e : j = i := Classical.byContradiction fun hne => by
        have h1 := ready_mono hj hne
        rw [h.1] at h1
        exact absurd h1 (by simp)
      subst e
      exact hy.wpOp hi hS ⟨fun _ => hS, h⟩
  | succ n ih =>
    intro l a w hf hr hy hdu hS h
    constructor
    · intro h0; rw [h0] at hr; exact absurd hr (by simp)
    · intro j hj
      by_cases e : j = i
      · subst e
        exact hy.wpOp hi hS ⟨fun _ => hS, h⟩
      · have hu := (mem_ready.1 hr).1
        have hnd : j ≠ d := waits_ne hw hu hj
        obtain ⟨hju, oj, hoj, _⟩ := mem_ready.1 hj
        have hap := hf j oj hoj e hju (fun e' he' hb' => not_waiting hu hj hoj e' he' hb')
        have hdj : (l.setIfInBounds j true).getD d true = false := by rw [getD_set_ne true hnd]; exact hdu
        refine wpOp_mono ?_ (wpOp_putIf hoj hap (fun cs b => Region.noSelect_spec hs i oi cs b hi) (fun cs b => Region.noSelect_spec hs j oj cs b hoj) hQ hy (h.2 j (ready_mono hj e)))
        rintro a' w' ⟨hy', hS', h'⟩
        rw [Array.setIfInBounds_comm _ _ (Ne.symm e)] at hS' h'
        have hid : i ≠ d := by
          rintro rfl
          exact waits_ne hw hu hr rfl
        have hSw : S w' := hS' (by rw [getD_set_ne true hid]; exact hdj)
        exact ⟨fun _ => hSw, ih (hf.set hju) (ready_mono hr (Ne.symm e)) hy' hdj hSw h'⟩
/-- One that yields its value in whatever world may be taken first. -/
theorem After.pure_first {i : Nat} {oi : Oper} {v : Value} (hi : ops[i]? = some oi) (hs : Region.noSelect ops = true) (hQ : ∀ c a w, Q (.panic c) (a.put oi.dst v) w → Q (.panic c) a w) (hid : i ≠ d) :
    ∀ (n : Nat) {l : Array Bool} {a : Act} {w : World}, Clear md ops oi i l → i ∈ Region.ready md ops l → Yields P ops oi v a → (l.getD d true = false → S w) → After P md ops Q S d n (l.setIfInBounds i true) (a.put oi.dst v) w → After P md ops Q S d (n + 1) l a w := by
  intro n
  induction n with
  | zero =>
    intro l a w _ hr hy hS h
    constructor
    · intro h0; rw [h0] at hr; exact absurd hr (by simp)
    · intro j hj
      have e : j = i := Classical.byContradiction fun hne => by
        have h1 := ready_mono hj hne
        rw [h.1] at h1
        exact absurd h1 (by simp)
      subst e
      exact hy.wpOp hi ⟨fun h0 => hS (by rwa [getD_set_ne true hid] at h0), h⟩
  | succ n ih =>
    intro l a w hf hr hy hS h
    constructor
    · intro h0; rw [h0] at hr; exact absurd hr (by simp)
    · intro j hj
      by_cases e : j = i
      · subst e
        exact hy.wpOp hi ⟨fun h0 => hS (by rwa [getD_set_ne true hid] at h0), h⟩
      · have hu := (mem_ready.1 hr).1
        obtain ⟨hju, oj, hoj, _⟩ := mem_ready.1 hj
        have hap := hf j oj hoj e hju (fun e' he' hb' => not_waiting hu hj hoj e' he' hb')
        refine wpOp_mono ?_ (wpOp_put hoj hap (fun cs b => Region.noSelect_spec hs i oi cs b hi) (fun cs b => Region.noSelect_spec hs j oj cs b hoj) hQ hy (h.2 j (ready_mono hj e)))
        rintro a' w' ⟨hy', hS', h'⟩
        rw [Array.setIfInBounds_comm _ _ (Ne.symm e)] at hS' h'
        have hSw : (l.setIfInBounds j true).getD d true = false → S w' := fun h0 => hS' (by rw [getD_set_ne true hid]; exact h0)
        exact ⟨hSw, ih (hf.set hju) (ready_mono hr (Ne.symm e)) hy' hSw h'⟩
theorem After.take {i : Nat} {oi : Oper} (v : Value) {n : Nat} {l : Array Bool} {a : Act} {w : World} (hi : ops[i]? = some oi) (hs : Region.noSelect ops = true) (hw : Waits md ops d i = true) (hf : Region.free md ops l i = true) (hr : (Region.ready md ops l).contains i = true) (hdu : l.getD d true = false)
    (hQ : ∀ c a w, Q (.panic c) (a.put oi.dst v) w → Q (.panic c) a w) (hS : S w) (hy : YieldsIf P ops S oi v a) (h : After P md ops Q S d n (l.setIfInBounds i true) (a.put oi.dst v) w) : After P md ops Q S d (n + 1) l a w :=
  After.take_first hi hs hQ hw n (Region.free_spec hi hf) (by simpa using hr) hy hdu hS h
theorem After.pure {i : Nat} {oi : Oper} (v : Value) {n : Nat} {l : Array Bool} {a : Act} {w : World} (hi : ops[i]? = some oi) (hs : Region.noSelect ops = true) (hid : i ≠ d) (hf : Region.free md ops l i = true) (hr : (Region.ready md ops l).contains i = true)
    (hQ : ∀ c a w, Q (.panic c) (a.put oi.dst v) w → Q (.panic c) a w) (hS : S w) (hy : Yields P ops oi v a) (h : After P md ops Q S d n (l.setIfInBounds i true) (a.put oi.dst v) w) : After P md ops Q S d (n + 1) l a w :=
  After.pure_first hi hs hQ hid n (Region.free_spec hi hf) (by simpa using hr) hy (fun _ => hS) h
/-- One alone may come up; what follows is a letter. -/
theorem After.one {i : Nat} {o : Oper} {n : Nat} {l : Array Bool} {a : Act} {w : World} (hr : Region.ready md ops l = [i]) (hi : ops[i]? = some o) (hg : o.guard = none)
    (h : ∀ K : Act → World → Prop, (∀ a' w', ((l.setIfInBounds i true).getD d true = false → S w') → After P md ops Q S d n (l.setIfInBounds i true) a' w' → K a' w') → o.wp P a w K Q) : After P md ops Q S d (n + 1) l a w := by
  refine ⟨fun h0 => (by rw [hr] at h0; simp at h0), fun j hj => ?_⟩
  rw [hr] at hj
  obtain rfl := List.mem_singleton.1 hj
  unfold wpOp
  rw [hi]
  have hw : Region.wanted o (yielded ops a.tmps) = true := by simp [Region.wanted, hg]
  simp only [hw, if_true]
  exact .inl (h _ fun _ _ h1 h2 => ⟨h1, h2⟩)
theorem After.two {i j : Nat} {oi oj : Oper} {n : Nat} {l : Array Bool} {a : Act} {w : World} (hr : Region.ready md ops l = [i, j]) (hi : ops[i]? = some oi) (hj : ops[j]? = some oj) (hg : oi.guard = none) (hg' : oj.guard = none)
    (h : ∀ K : Act → World → Prop, (∀ a' w', ((l.setIfInBounds i true).getD d true = false → S w') → After P md ops Q S d n (l.setIfInBounds i true) a' w' → K a' w') → oi.wp P a w K Q)
    (h' : ∀ K : Act → World → Prop, (∀ a' w', ((l.setIfInBounds j true).getD d true = false → S w') → After P md ops Q S d n (l.setIfInBounds j true) a' w' → K a' w') → oj.wp P a w K Q) : After P md ops Q S d (n + 1) l a w := by
  refine ⟨fun h0 => (by rw [hr] at h0; simp at h0), fun k hk => ?_⟩
  rw [hr] at hk
  have hwi : Region.wanted oi (yielded ops a.tmps) = true := by simp [Region.wanted, hg]
  have hwj : Region.wanted oj (yielded ops a.tmps) = true := by simp [Region.wanted, hg']
  rcases List.mem_cons.1 hk with rfl | hk
  · unfold wpOp; rw [hi]; simp only [hwi, if_true]; exact .inl (h _ fun _ _ h1 h2 => ⟨h1, h2⟩)
  · obtain rfl := List.mem_singleton.1 hk
    unfold wpOp; rw [hj]; simp only [hwj, if_true]; exact .inl (h' _ fun _ _ h1 h2 => ⟨h1, h2⟩)
theorem After.done {l : Array Bool} {a : Act} {w : World} (hr : Region.ready md ops l = []) (h : Q .normal a w) : ∀ n, After P md ops Q S d n l a w
  | 0 => ⟨hr, h⟩
  | _ + 1 => ⟨fun _ => h, by rw [hr]; intro j hj; cases hj⟩
theorem start {id : Nat} {a : Act} {w : World} (S : World → Prop) (d : Nat) (hm : P.follows .mixedOrders = true) (h : After P .any ops Q S d ops.size (Array.replicate ops.size false) a w.drew) : (Code.region id ops true).wp P Q a w :=
  wp_region_any hm h.any
end Go.Proofs.Ytlelboddihogmaa.Hd
/-
  A region that draws its order, of whose operations one (d) writes what others read: a condition that may grow stronger on the way; the slots written out.
-/
namespace Go.Proofs.Ytlelboddihogmaa.Hd
variable {P : Program} {ops : Array Oper} {Q : Exit → Act → World → Prop} {md : Region.Mode} {S : World → Prop} {d : Nat}

/-- From here on a stronger condition may be asked. -/
theorem After.more {S' : World → Prop} (hs : ∀ w, S' w → S w) : ∀ {n : Nat} {l : Array Bool} {a : Act} {w : World}, After P md ops Q S' d n l a w → After P md ops Q S d n l a w
  | 0, _, _, _, h => h
  | _ + 1, _, _, _, h => ⟨h.1, fun j hj => wpOp_mono (fun _ _ h' => ⟨fun e => hs _ (h'.1 e), After.more hs h'.2⟩) (h.2 j hj)⟩
theorem After.takeD {i : Nat} {oi : Oper} (t : Option Tmp) (v : Value) {n : Nat} {l : Array Bool} {a : Act} {w : World} (hi : ops[i]? = some oi) (ht : oi.dst = t) (hs : Region.noSelect ops = true) (hw : Waits md ops d i = true) (hf : Region.free md ops l i = true) (hr : (Region.ready md ops l).contains i = true) (hdu : l.getD d true = false)
    (hQ : ∀ c a w, Q (.panic c) (a.put oi.dst v) w → Q (.panic c) a w) (hS : S w) (hy : YieldsIf P ops S oi v a) (h : After P md ops Q S d n (l.setIfInBounds i true) (a.put t v) w) : After P md ops Q S d (n + 1) l a w := by
  subst ht
  exact After.take v hi hs hw hf hr hdu hQ hS hy h
theorem After.pureD {i : Nat} {oi : Oper} (t : Option Tmp) (v : Value) {n : Nat} {l : Array Bool} {a : Act} {w : World} (hi : ops[i]? = some oi) (ht : oi.dst = t) (hs : Region.noSelect ops = true) (hid : i ≠ d) (hf : Region.free md ops l i = true) (hr : (Region.ready md ops l).contains i = true)
    (hQ : ∀ c a w, Q (.panic c) (a.put oi.dst v) w → Q (.panic c) a w) (hS : S w) (hy : Yields P ops oi v a) (h : After P md ops Q S d n (l.setIfInBounds i true) (a.put t v) w) : After P md ops Q S d (n + 1) l a w := by
  subst ht
  exact After.pure v hi hs hid hf hr hQ hS hy h
end Go.Proofs.Ytlelboddihogmaa.Hd
/-
  append: a number put behind a list of the call's own; a list that has just been made empty; frames.
-/
namespace Go.Proofs.Ytlelboddihogmaa.Ai
open Go.RowKit
open Go.Proofs.Ytlelboddihogmaa.Li
theorem one_cell (w : World) (T : TypeId) (x : Int) : ∀ j u, ([Value.int .i64 x] : List Value)[j]? = some u → (w.alloc (.cells #[.int .i64 x] T)).cell? ((⟨w.heap.size, 0, none⟩ : Addr).add j) = some u := by
  intro j u hj
  match j, hj with
  | 0, hj => simp at hj; subst hj; simp [Addr.add]
theorem one_at {w : World} {T : TypeId} {x : Int} {H : Nat} (h : w.heap.size = H) : ∀ j u, ([Value.int .i64 x] : List Value)[j]? = some u → (w.alloc (.cells #[.int .i64 x] T)).cell? ((⟨H, 0, none⟩ : Addr).add j) = some u := by
  subst h; exact one_cell _ _ _
theorem one_one (x : Int) : ∀ u ∈ ([Value.int .i64 x] : List Value), u.oneCell' = true := by
  intro u hu; simp at hu; subst hu; rfl
theorem own_snoc {w : World} {base n : Nat} {v : Value} {l : List Int} {x : Int} (hn : l.length = n) (h : w.ownsRow base 3 1 v (n + 1) (iv l ++ [.int .i64 x])) : Own w base v (l ++ [x]) := by
  subst hn
  unfold Own
  rw [← iv_append, List.length_append]
  exact h
theorem own_cat {w : World} {base n : Nat} {v : Value} {l m : List Int} (hn : l.length = n) (h : w.ownsRow base 3 1 v (n + m.length) (iv l ++ iv m)) : Own w base v (l ++ m) := by
  subst hn
  unfold Own
  rw [← iv_append, List.length_append]
  exact h
theorem own_empty (w : World) (base : Nat) (hb : base ≤ w.heap.size) : Own (w.alloc (.cells #[] 3)) base (.slice (some ⟨w.heap.size, 0, none⟩) 0 0) [] :=
  World.ownsRow_made w #[] 0 hb (by unfold maxLen; omega) (by simp)
/-- What a list reads as, for an append of all of it. -/
theorem news_i {w : World} {ad : Addr} {xs : List Int} (h : IsL w (some ad) xs) : ∀ j u, (iv xs)[j]? = some u → w.cell? (ad.add j) = some u := by
  intro j u hj
  rcases h with rfl | ⟨b, off, e, _, hc⟩
  · simp [iv] at hj
  · cases e
    have hlt : j < xs.length := by
      apply Classical.byContradiction
      intro hn
      rw [List.getElem?_eq_none (by rw [iv_length]; omega)] at hj
      cases hj
    rw [iv_get xs j hlt] at hj
    rw [Go.WideShapes.add_plain, hc j hlt, hj]
/-- What grows in the call's own blocks turns nothing below. -/
theorem below_app {w wr w1 : World} {B : Nat} {r : Option Nat} (hB : Below B w wr) (hs : B ≤ wr.heap.size) (hg : wr.grownBy w1 r) (hr : ∀ k, r = some k → B ≤ k) : Below B w w1 :=
  hB.trans ⟨hg.os, hg.tape, hg.output, hg.size, fun k hk => hg.block k (by omega) (fun e => by have := hr k e.symm; omega)⟩
theorem grown_undrew {w w1 : World} {r : Option Nat} (h : w.drew.grownBy w1 r) : w.grownBy w1 r := ⟨h.os, h.tape, h.output, h.size, h.block⟩
theorem grown_of_below {w w1 w2 : World} {b : Nat} (h : w.grownBy w1 (some b)) (hB : Below w1.heap.size w1 w2) : w.grownBy w2 (some b) :=
  ⟨hB.os.trans h.os, hB.tape.trans h.tape, hB.output.trans h.output, Nat.le_trans h.size hB.size, fun k hk hr => (hB.block k (Nat.lt_of_lt_of_le hk h.size)).trans (h.block k hk hr)⟩
/-- What lies in new blocks stays where the cursor goes on. -/
theorem own_cur {w w1 : World} {b B : Nat} {v : Value} {xs : List Int} (h : Own w B v xs) (hg : w.grownBy w1 (some b)) (hb : b < B) : Own w1 B v xs := by
  refine h.kept hg ?_
  cases e : v.ownBlock with
  | none => exact .inl rfl
  | some k => exact .inr (by have := (h.ge k e).1; simp; omega)
/-- A write into a block that was made since. -/
theorem grown_new {w w1 w2 : World} {b : Nat} {r : Option Nat} (h : w.grownBy w1 (some b)) (h' : w1.grownBy w2 r) (hr : ∀ k, r = some k → w.heap.size ≤ k) : w.grownBy w2 (some b) :=
  ⟨h'.os.trans h.os, h'.tape.trans h.tape, h'.output.trans h.output, Nat.le_trans h.size h'.size, fun k hk hne => (h'.block k (Nat.lt_of_lt_of_le hk h.size) (fun e => by have := hr k e.symm; omega)).trans (h.block k hk hne)⟩
/-- What lies below B lies apart from what is owned from B on. -/
theorem sepB {w : World} {B : Nat} {v v' : Value} {ys : List Int} (h : ∀ k, v.ownBlock = some k → k < B) (h' : Own w B v' ys) : v.ownBlock = none ∨ v.ownBlock ≠ v'.ownBlock := by
  cases e : v.ownBlock with
  | none => exact .inl rfl
  | some k => exact .inr fun e' => by have := h k e; have := (h'.ge k e'.symm).1; omega
end Go.Proofs.Ytlelboddihogmaa.Ai
/-
  Two lists of the call's own and a variable, made in any order; one more pair of lists put behind a list of pairs.
-/
namespace Go.Proofs.Ytlelboddihogmaa.Ct
set_option maxRecDepth 20000
open Go.RowKit
open Go.Proofs.Ytlelboddihogmaa.Tb (ownsRow_at)
open Go.Proofs.Ytlelboddihogmaa.Sv (Fr fr_below fr_grown Wr)
open Go.Proofs.Ytlelboddihogmaa.Kt (Kv OwK)
open Go.Proofs.Ytlelboddihogmaa.To (OwT)
set_option linter.unusedVariables false
structure Rw where
  T : TypeId
  sz : Nat
  n : Nat
  xs : List Value
def Ow (w : World) (base : Nat) (v : Value) (r : Rw) : Prop := w.ownsRow base r.T r.sz v r.n r.xs
theorem Ow.lt {w : World} {base : Nat} {v : Value} {r : Rw} (h : Ow w base v r) : ∀ k, v.ownBlock = some k → base ≤ k ∧ k < w.heap.size := World.ownsRow.lt h
theorem Ow.below {w w1 : World} {base : Nat} {v : Value} {r : Rw} (h : Ow w base v r) (hb : Below w.heap.size w w1) : Ow w1 base v r := ownsRow_at h (fun k e => hb.block k (h.lt k e).2)
theorem Ow.mono {w : World} {base b1 : Nat} {v : Value} {r : Rw} (h : Ow w base v r) (hb : b1 ≤ base) : Ow w b1 v r := by
  refine ⟨h.1, ?_⟩
  rcases h.2 with e | ⟨g, cap, cur, e, hg, rest⟩
  · exact .inl e
  · exact .inr ⟨g, cap, cur, e, Nat.le_trans hb hg, rest⟩
def pair0 : List Value := [.slice none 0 0, .slice none 0 0]
/-- How far it has come: two lists, a variable of two cells, each made or not. -/
structure Tp (W wx : World) (M C : Option (Value × Rw)) (A : Option Nat) : Prop where
  bel : Below W.heap.size W wx
  oM : ∀ v r, M = some (v, r) → Ow wx W.heap.size v r
  oC : ∀ v r, C = some (v, r) → Ow wx W.heap.size v r
  oA : ∀ g, A = some g → Wr wx g 0 pair0 ∧ W.heap.size ≤ g
  mc : ∀ v r u s, M = some (v, r) → C = some (u, s) → ∀ y, v.ownBlock = some y → u.ownBlock ≠ some y
  ma : ∀ v r g, M = some (v, r) → A = some g → v.ownBlock ≠ some g
  ca : ∀ u s g, C = some (u, s) → A = some g → u.ownBlock ≠ some g
section
variable {W wx w1 : World} {M C : Option (Value × Rw)} {A : Option Nat}
theorem Tp.init (W : World) : Tp W W.drew none none none :=
  ⟨(Below.refl _ _).drew, fun v r e => (by cases e), fun v r e => (by cases e), fun g e => (by cases e), fun v r u s e => (by cases e), fun v r g e => (by cases e), fun u s g e => (by cases e)⟩
theorem Tp.below (h : Tp W wx M C A) (hb : Below wx.heap.size wx w1) : Tp W w1 M C A :=
  ⟨h.bel.trans (hb.mono h.bel.size), fun v r e => (h.oM v r e).below hb, fun v r e => (h.oC v r e).below hb, fun g e => ⟨(h.oA g e).1.below hb, (h.oA g e).2⟩, h.mc, h.ma, h.ca⟩
theorem Tp.addM (h : Tp W wx none C A) (hb : Below wx.heap.size wx w1) {v : Value} {r : Rw} (ho : Ow w1 wx.heap.size v r) : Tp W w1 (some (v, r)) C A := by
  have h' := h.below hb
  refine ⟨h'.bel, fun v' r' e => ?_, h'.oC, h'.oA, fun v' r' u s e e' y k1 k2 => ?_, fun v' r' g e e' k1 => ?_, h'.ca⟩
  · cases e; exact ho.mono h.bel.size
  · cases e; have := (ho.lt y k1).1; have := ((h.oC u s e').lt y k2).2; omega
  · cases e; have := (ho.lt g k1).1; have := (h.oA g e').1.1; omega
theorem Tp.addC (h : Tp W wx M none A) (hb : Below wx.heap.size wx w1) {v : Value} {r : Rw} (ho : Ow w1 wx.heap.size v r) : Tp W w1 M (some (v, r)) A := by
  have h' := h.below hb
  refine ⟨h'.bel, h'.oM, fun v' r' e => ?_, h'.oA, fun v' r' u s e e' y k1 k2 => ?_, h'.ma, fun v' r' g e e' k1 => ?_⟩
  · cases e; exact ho.mono h.bel.size
  · cases e'; have := (ho.lt y k2).1; have := ((h.oM v' r' e).lt y k1).2; omega
  · cases e; have := (ho.lt g k1).1; have := (h.oA g e').1.1; omega
theorem Tp.newA (h : Tp W wx M C none) (T : TypeId) : ∃ wy g, wx.alloc (.cells #[.slice none 0 0, .slice none 0 0] T) = wy ∧ wx.heap.size = g ∧ Tp W wy M C (some g) := by
  have hb : Below wx.heap.size wx (wx.alloc (.cells #[.slice none 0 0, .slice none 0 0] T)) := (Below.refl _ _).alloc (Nat.le_refl _) _
  have h' := h.below hb
  refine ⟨_, _, rfl, rfl, ⟨h'.bel, h'.oM, h'.oC, fun g e => ?_, h'.mc, fun v r g e e' k1 => ?_, fun v r g e e' k1 => ?_⟩⟩
  · cases e; exact ⟨Sv.wr_new wx pair0 T, h.bel.size⟩
  · cases e'; have := ((h.oM v r e).lt _ k1).2; omega
  · cases e'; have := ((h.oC v r e).lt _ k1).2; omega
theorem ow_new (wx : World) (T : TypeId) (sz : Nat) : Ow (wx.alloc (.cells #[] T)) wx.heap.size (.slice (some ⟨wx.heap.size, 0, none⟩) 0 0) ⟨T, sz, 0, []⟩ :=
  World.ownsRow_made wx #[] 0 (Nat.le_refl _) (by unfold maxLen; omega) (by simp)
theorem Tp.newM (h : Tp W wx none C A) (T : TypeId) (sz : Nat) : ∃ wy g, wx.alloc (.cells #[] T) = wy ∧ wx.heap.size = g ∧ Tp W wy (some (.slice (some ⟨g, 0, none⟩) 0 0, ⟨T, sz, 0, []⟩)) C A :=
  ⟨_, _, rfl, rfl, h.addM ((Below.refl _ _).alloc (Nat.le_refl _) _) (ow_new wx T sz)⟩
theorem Tp.newC (h : Tp W wx M none A) (T : TypeId) (sz : Nat) : ∃ wy g, wx.alloc (.cells #[] T) = wy ∧ wx.heap.size = g ∧ Tp W wy M (some (.slice (some ⟨g, 0, none⟩) 0 0, ⟨T, sz, 0, []⟩)) A :=
  ⟨_, _, rfl, rfl, h.addC ((Below.refl _ _).alloc (Nat.le_refl _) _) (ow_new wx T sz)⟩
theorem oblock (g n c : Nat) : (Value.slice (some ⟨g, 0, none⟩) n c).ownBlock = some g := rfl
theorem bel_grown {w wx w1 : World} {n g : Nat} (h : Below n w wx) (hs : n ≤ wx.heap.size) (hg : wx.grownBy w1 (some g)) (hn : n ≤ g) : Below n w w1 := h.grown hg hs (fun k e => by cases e; exact hn)
theorem Tp.fillM {g k n m c cap : Nat} {r r' : Rw} (h : Tp W wx (some (.slice (some ⟨g, 0, none⟩) n c, r)) C A) (ho : Ow w1 W.heap.size (.slice (some ⟨k, 0, none⟩) m cap) r') (hg : wx.grownBy w1 (some g)) (hk : k = g ∨ k = wx.heap.size) : Tp W w1 (some (.slice (some ⟨k, 0, none⟩) m cap, r')) C A := by
  have hgm := (h.oM _ _ rfl).lt g rfl
  refine ⟨bel_grown h.bel h.bel.size hg hgm.1, fun v r e => ?_, fun v s e => ?_, fun a e => ?_, fun v s u t e e' y k1 k2 => ?_, fun v s a e e' k1 => ?_, h.ca⟩
  · cases e; exact ho
  · have hc := h.oC v s e
    exact ownsRow_at hc (fun y ey => hg.block y (hc.lt y ey).2 (fun e2 => by cases e2; exact h.mc _ _ _ _ rfl e _ (oblock _ _ _) ey))
  · obtain ⟨a1, a2⟩ := h.oA a e
    exact ⟨a1.keptAt hg.size (hg.block a a1.1 (fun e2 => by cases e2; exact h.ma _ _ _ rfl e (oblock _ _ _))), a2⟩
  · cases e
    have ek : y = k := by simpa [Value.ownBlock] using k1.symm
    have hc := (h.oC u t e').lt y k2
    rcases hk with rfl | rfl
    · exact h.mc _ _ _ _ rfl e' y (by rw [ek]; rfl) k2
    · omega
  · cases e
    have ek : a = k := by simpa [Value.ownBlock] using k1.symm
    have ha := (h.oA a e').1.1
    rcases hk with rfl | rfl
    · exact h.ma _ _ _ rfl e' (by rw [ek]; rfl)
    · omega
theorem Tp.fillC {g k n m c cap : Nat} {r r' : Rw} (h : Tp W wx M (some (.slice (some ⟨g, 0, none⟩) n c, r)) A) (ho : Ow w1 W.heap.size (.slice (some ⟨k, 0, none⟩) m cap) r') (hg : wx.grownBy w1 (some g)) (hk : k = g ∨ k = wx.heap.size) : Tp W w1 M (some (.slice (some ⟨k, 0, none⟩) m cap, r')) A := by
  have hgm := (h.oC _ _ rfl).lt g rfl
  refine ⟨bel_grown h.bel h.bel.size hg hgm.1, fun v s e => ?_, fun v r e => ?_, fun a e => ?_, fun v s u t e e' y k1 k2 => ?_, h.ma, fun v s a e e' k1 => ?_⟩
  · have hc := h.oM v s e
    exact ownsRow_at hc (fun y ey => hg.block y (hc.lt y ey).2 (fun e2 => by cases e2; exact h.mc _ _ _ _ e rfl _ ey (oblock _ _ _)))
  · cases e; exact ho
  · obtain ⟨a1, a2⟩ := h.oA a e
    exact ⟨a1.keptAt hg.size (hg.block a a1.1 (fun e2 => by cases e2; exact h.ca _ _ _ rfl e (oblock _ _ _))), a2⟩
  · cases e'
    have ek : y = k := by simpa [Value.ownBlock] using k2.symm
    have hc := (h.oM v s e).lt y k1
    rcases hk with rfl | rfl
    · exact h.mc _ _ _ _ e rfl y k1 (by rw [ek]; rfl)
    · omega
  · cases e
    have ek : a = k := by simpa [Value.ownBlock] using k1.symm
    have ha := (h.oA a e').1.1
    rcases hk with rfl | rfl
    · exact h.ca _ _ _ rfl e' (by rw [ek]; rfl)
    · omega
end
end Go.Proofs.Ytlelboddihogmaa.Ct
/-
  BordersOk, BinOf, BinsOf of the program and of the model: each answers what Bor says; old memory stays.
-/
namespace Go.Proofs.Ytlelboddihogmaa.Bw
open Go.RowKit
open Go.Proofs.Ytlelboddihogmaa.Li Go.Proofs.Ytlelboddihogmaa.Bo

set_option maxHeartbeats 400000 in
theorem iok_m (x : Int) (w : World) :
    Calls Try.prog 62 #[.int .i64 x] w fun e w' => e = .returned (.bool (fok x)) ∧ w' = w := by
  go_enter Try.func62, Try.ntmps62
  go_wp2
  all_goals go_ret
  all_goals refine ⟨ret_bool ?_, rfl⟩
  all_goals unfold fok
  all_goals simp
  all_goals omega
set_option maxHeartbeats 400000 in
theorem iok (x : Int) (w : World) :
    Calls Try.prog 41 #[.int .i64 x] w fun e w' => e = .returned (.bool (fok x)) ∧ w' = w := by
  go_enter Try.func41, Try.ntmps41
  go_wp2_with (go_at_call 62; refine (iok_m _ _).mono ?_; rintro e w' ⟨rfl, hw⟩; subst w')
  go_ret
  exact ⟨rfl, rfl⟩
set_option maxHeartbeats 400000 in
theorem sok (x : Int) (w : World) :
    Calls Try.prog 32 #[.int .i64 x] w fun e w' => e = .returned (.bool (fok x)) ∧ w' = w := by
  go_enter Try.func32, Try.ntmps32
  go_wp2_with (go_at_call 31; refine (between_any _ _ _ _).mono ?_; rintro e w' ⟨rfl, hw⟩; subst w')
  go_ret
  exact ⟨rfl, rfl⟩
theorem sokv (x : Int) (v : Bool) (h : fok x = v) (w : World) :
    Calls Try.prog 32 #[.int .i64 x] w fun e w' => e = .returned (.bool v) ∧ w' = w := by subst h; exact sok x w
set_option maxHeartbeats 1000000 in
theorem iall (w : World) (a : Option Addr) (cap : Nat) (xs : List Int) (hx : IsL w a xs) (hl : xs.length ≤ 1048576) :
    Calls Try.prog 73 #[.slice a xs.length cap] w fun e w' => e = .returned (.bool (aok xs)) ∧ w' = w := by
  go_enter Try.func73, Try.ntmps73
  go_wp2
  go_loop [7] (fun i => ∃ k : Nat, k ≤ xs.length ∧ i = .int .i64 k ∧ ∀ j (hj : j < xs.length), j < k → fok xs[j] = true) (fun i => xs.length - (intOf i).toNat)
  case atStart => exact ⟨0, Nat.zero_le _, rfl, fun j hj h => by omega⟩
  case round =>
    obtain ⟨k, hk, rfl, hn⟩ := hrel
    have HN : Hid (∀ j (hj : j < xs.length), j < k → fok xs[j] = true) := hn
    clear hn
    by_cases hlt : k < xs.length
    · rcases hx with rfl | ⟨b, off, rfl, hb, hc⟩
      · simp at hlt
      have hcx := hc k hlt
      clear hc
      cases hv : fok xs[k] with
      | false =>
        have HR : Hid (aok xs = false) := aok_no hlt hv
        go_wp2_with (go_at_call 41; refine (iok _ _).mono ?_; rintro e w' ⟨rfl, hw⟩; subst w'; rw [hv])
        go_ret
        exact ⟨ret_bool HR.out.symm, rfl⟩
      | true =>
        have HR : Hid (∀ j (hj : j < xs.length), j < k + 1 → fok xs[j] = true) := fun j hj h => by
          by_cases e : j = k
          · subst e; exact hv
          · exact HN.out j hj (by omega)
        go_wp2_with (go_at_call 41; refine (iok _ _).mono ?_; rintro e w' ⟨rfl, hw⟩; subst w'; rw [hv])
        go_round
        case rel => exact ⟨k + 1, by omega, by go_num, HR.out⟩
        case measure => simp [intOf]; omega
    · have HR : Hid (aok xs = true) := aok_to (fun j hj => HN.out j hj (by omega))
      go_wp2
      go_ret
      exact ⟨ret_bool HR.out.symm, rfl⟩
end Go.Proofs.Ytlelboddihogmaa.Bw
