/-
  A model that was read of a law's arguments, opened.
-/
import Derived.Test.YtkiddmbenepfjaaMdl
import Derived.Test.YtkiddmbenepfjaaOpn
import Derived.Test.YtkiddmbenepfjaaOpnT
import Derived.ProofKit
import Derived.ChangeSame
import Derived.Deep.Strs
import Derived.Deep.Slices
namespace Go.Proofs.Ytkiddmbenepfjaa.Op
open Go.ChangeShapes Go.WideShapes Go.Deep Go.RowKit
open Go.Proofs.Ytkiddmbenepfjaa.Kt (Kv IsK)
open Go.Proofs.Ytkiddmbenepfjaa.Tm (IsT)
set_option maxRecDepth 10000
section
variable {H : Type} {enc : TypeId × Value → H} {W : World}
theorem tab_cells {n : Nat} {cs : List Value} {x : DataW H × List MemPlace} (h : DataW.trod enc Try.prog W 0 (fun _ => true) true n 93 cs = some x) :
    ∃ t : Kv, ∃ a c d e, cs = [.slice a t.ws.length c, .slice d t.vs.length e] ∧ Ls.IsS W a t.ws ∧ Li.IsL W d t.vs ∧ t.ws.length ≤ maxLen ∧ Tb.Fits t.ws ∧ t.vs.length ≤ maxLen := by
  obtain ⟨y0, y1, m, _, hl, h0, h1⟩ := trod_struct2 Try.underlying93 h
  rw [show Try.prog.cellsOf 93 = 2 by kernel_rfl] at hl
  rw [show Try.prog.cellsOf 39 = 1 by kernel_rfl] at h0
  rw [show Try.prog.cellsOf 38 = 1 by kernel_rfl] at h1
  match cs, hl with
  | [v0, v1], _ =>
    obtain ⟨a0, ps, c0, rfl, i0, l0, f0⟩ := strs_cell (by simpa using h0)
    obtain ⟨a1, xs, c1, rfl, i1, l1⟩ := ints_cell (by simpa using h1)
    exact ⟨⟨ps, xs⟩, _, _, _, _, rfl, i0, i1, l0, f0, l1⟩
theorem tabs_cell {n : Nat} {v : Value} {x : DataW H × List MemPlace} (h : DataW.trod enc Try.prog W 0 (fun _ => true) true n 24 [v] = some x) :
    ∃ a ts cap, v = .slice a (ts : List Kv).length cap ∧ IsK W a ts ∧ Kt.FitsK ts := by
  rcases open_slice Try.underlying24 h with ⟨hcs, _⟩ | ⟨x, l, c, m, n', D, Pl, hcs, _, hl, hm, hmm, _, hx⟩
  · obtain rfl : v = _ := List.singleton_inj.1 hcs
    exact ⟨none, [], 0, rfl, .inl rfl, ⟨by simp, fun j hj => by simp at hj⟩⟩
  · obtain rfl : v = _ := List.singleton_inj.1 hcs
    have hmc : m = c := by simpa using hmm
    subst hmc
    rw [show Try.prog.cellsOf 93 = 2 by kernel_rfl] at hx
    obtain ⟨R, hR⟩ := pick_any (α := Kv) ⟨[], []⟩ (m := m) (p := fun i t => ∃ a0 c0 a1 c1, W.cell? (x.add (i * 2)) = some (.slice a0 t.ws.length c0) ∧ W.cell? ((x.add (i * 2)).add 1) = some (.slice a1 t.vs.length c1) ∧ Ls.IsS W a0 t.ws ∧ Li.IsL W a1 t.vs ∧ t.ws.length ≤ maxLen ∧ Tb.Fits t.ws ∧ t.vs.length ≤ maxLen) (fun i hi => by
      obtain ⟨cs', h1, h2⟩ := hx i hi
      obtain ⟨t, a, c, a', c', rfl, hp, hx, hl0, hf0, hl1⟩ := tab_cells h2
      obtain ⟨_, _, hc⟩ := World.cells?_some h1
      have e0 := hc 0 (by omega)
      have e1 := hc 1 (by omega)
      refine ⟨t, a, c, a', c', ?_, ?_, hp, hx, hl0, hf0, hl1⟩
      · simpa [Addr.add] using e0
      · simpa using e1)
    unfold maxLen at hm
    refine ⟨some x, (List.range l).map R, m, by simp, ?_, ⟨by simp; omega, fun j hj => ?_⟩⟩
    · by_cases h0 : l = 0
      · subst h0; exact .inl rfl
      · obtain ⟨cb, off, spot⟩ := x
        obtain ⟨_, _, _, _, c0, _⟩ := hR 0 (by omega)
        have hs : spot = none := by simpa [Addr.add] using World.cell?_spot c0
        subst hs
        have hlt : cb < W.heap.size := World.block_lt_of_cell? W _ c0
        refine .inr ⟨cb, off, rfl, hlt, fun j hj => ?_⟩
        have hj' : j < l := by simpa using hj
        obtain ⟨a0, c0, a1, c1, e0, e1, i0, i1, _⟩ := hR j (by omega)
        simp only [List.getElem_map, List.getElem_range]
        refine ⟨a0, c0, a1, c1, ⟨?_, ?_⟩, i0, i1⟩
        · rwa [Go.WideShapes.add_plain] at e0
        · rwa [Go.WideShapes.add_plain, Go.WideShapes.add_plain] at e1
    · have hj' : j < l := by simpa using hj
      obtain ⟨_, _, _, _, _, _, _, _, hf0, hf1, hf2⟩ := hR j (by omega)
      unfold maxLen at hf0 hf2
      simp only [List.getElem_map, List.getElem_range]
      exact ⟨by omega, hf1, by omega⟩
theorem trod_five {P : Program} {w : World} {base : Nat} {spare : Nat → Bool} {held : Bool} {t : TypeId} {f0 f1 f2 f3 f4 : Field} {fuel : Nat} {cs : List Value} {x : DataW H × List MemPlace} (ht : P.underlying t = some (.struct #[f0, f1, f2, f3, f4])) (h : DataW.trod enc P w base spare held fuel t cs = some x) :
    ∃ y0 y1 y2 y3 y4 n, cs.length = P.cellsOf t ∧ DataW.trod enc P w base spare held n f0.type ((cs.drop f0.offset).take (P.cellsOf f0.type)) = some y0 ∧ DataW.trod enc P w base spare held n f1.type ((cs.drop f1.offset).take (P.cellsOf f1.type)) = some y1 ∧ DataW.trod enc P w base spare held n f2.type ((cs.drop f2.offset).take (P.cellsOf f2.type)) = some y2 ∧ DataW.trod enc P w base spare held n f3.type ((cs.drop f3.offset).take (P.cellsOf f3.type)) = some y3 ∧ DataW.trod enc P w base spare held n f4.type ((cs.drop f4.offset).take (P.cellsOf f4.type)) = some y4 := by
  obtain ⟨xs, n, _, rfl, hl, hlen, hf⟩ := DataW.trod_struct ht h
  match xs, hlen with
  | [y0, y1, y2, y3, y4], _ => exact ⟨y0, y1, y2, y3, y4, n, hl, by simpa using hf 0 f0 rfl, by simpa using hf 1 f1 rfl, by simpa using hf 2 f2 rfl, by simpa using hf 3 f3 rfl, by simpa using hf 4 f4 rfl⟩
theorem agg6 {cs : Array Value} (h : cs.size = 6) : ∃ a b c d e f, cs = #[a, b, c, d, e, f] := by
  obtain ⟨l⟩ := cs
  match l, h with
  | [a, b, c, d, e, f], _ => exact ⟨a, b, c, d, e, f, rfl⟩
theorem model_cells {n : Nat} {cs : List Value} {x : DataW H × List MemPlace} (h : DataW.trod enc Try.prog W 0 (fun _ => true) true n 27 cs = some x) :
    ∃ m : Md.M, ∃ ak ck ax ct, cs = [.int .i64 m.n, .int .i64 m.c, .int .i64 m.prior, .int .i64 m.base, .slice ak m.ks.length ck, .slice ax m.ts.length ct] ∧ Md.Rm W ak ax m ∧ Md.FitsM m := by
  obtain ⟨y0, y1, y2, y3, y4, m, hl, h0, h1, h2, h3, h4⟩ := trod_five Try.underlying27 h
  rw [show Try.prog.cellsOf 27 = 6 by kernel_rfl] at hl
  rw [show Try.prog.cellsOf 23 = 2 by kernel_rfl] at h0
  rw [show Try.prog.cellsOf 3 = 1 by kernel_rfl] at h1 h2
  rw [show Try.prog.cellsOf 24 = 1 by kernel_rfl] at h3
  rw [show Try.prog.cellsOf 25 = 1 by kernel_rfl] at h4
  match cs, hl with
  | [a0, a1, a2, a3, a4, a5], _ =>
    obtain ⟨i0, i1, e, _⟩ := schema_cells (by simpa using h0)
    simp at e
    obtain ⟨rfl, rfl⟩ := e
    obtain ⟨i2, rfl, _⟩ := int_cell (by simpa using h1)
    obtain ⟨i3, rfl, _⟩ := int_cell (by simpa using h2)
    obtain ⟨ak, ks, ck, rfl, hk, fk⟩ := tabs_cell (by simpa using h3)
    obtain ⟨ax, ts, ct, rfl, ht, ft⟩ := trees_cell (by simpa using h4)
    exact ⟨⟨i0, i1, i2, i3, ks, ts⟩, ak, ck, ax, ct, rfl, ⟨hk, ht⟩, fk, ft⟩
theorem model_open {base : Nat} {v : Value} {d : DataW H} {p : List MemPlace} (hv : Value.okWide Try.prog W .any base 27 v) (h : DataW.Trod enc Try.prog W 0 (fun _ => true) true 27 v d p) :
    ∃ m : Md.M, ∃ ak ck ax ct, v = .agg #[.int .i64 m.n, .int .i64 m.c, .int .i64 m.prior, .int .i64 m.base, .slice ak m.ks.length ck, .slice ax m.ts.length ct] ∧ Md.Rm W ak ax m ∧ Md.FitsM m := by
  obtain ⟨cs, rfl, hc⟩ := okWide_struct Try.underlying27 hv
  rw [show Try.prog.cellsOf 27 = 6 by kernel_rfl] at hc
  obtain ⟨u0, u1, u2, u3, u4, u5, rfl⟩ := agg6 hc
  obtain ⟨n, hn⟩ := h
  obtain ⟨m, ak, ck, ax, ct, e, hm, hf⟩ := model_cells hn
  simp [Value.cells] at e
  obtain ⟨rfl, rfl, rfl, rfl, rfl, rfl⟩ := e
  exact ⟨m, ak, ck, ax, ct, rfl, hm, hf⟩
end
end Go.Proofs.Ytkiddmbenepfjaa.Op
