/-
  A Conf that was read of a law's arguments, opened.
-/
import Derived.Test.YtbjnhdhnlofibaaCfo
import Derived.ProofKit
import Derived.ChangeSame
import Derived.Deep.Strs
import Derived.Deep.Slices
namespace Go.Proofs.Ytbjnhdhnlofibaa.Op
open Go.ChangeShapes Go.WideShapes Go.Deep Go.RowKit
set_option maxRecDepth 10000

section
variable {H : Type} {enc : TypeId × Value → H} {W : World}
theorem trod_seven {P : Program} {w : World} {base : Nat} {spare : Nat → Bool} {held : Bool} {t : TypeId} {f0 f1 f2 f3 f4 f5 f6 : Field} {fuel : Nat} {cs : List Value} {x : DataW H × List MemPlace} (ht : P.underlying t = some (.struct #[f0, f1, f2, f3, f4, f5, f6])) (h : DataW.trod enc P w base spare held fuel t cs = some x) :
    ∃ y0 y1 y2 y3 y4 y5 y6 n, cs.length = P.cellsOf t ∧ DataW.trod enc P w base spare held n f0.type ((cs.drop f0.offset).take (P.cellsOf f0.type)) = some y0 ∧ DataW.trod enc P w base spare held n f1.type ((cs.drop f1.offset).take (P.cellsOf f1.type)) = some y1 ∧ DataW.trod enc P w base spare held n f2.type ((cs.drop f2.offset).take (P.cellsOf f2.type)) = some y2 ∧ DataW.trod enc P w base spare held n f3.type ((cs.drop f3.offset).take (P.cellsOf f3.type)) = some y3 ∧ DataW.trod enc P w base spare held n f4.type ((cs.drop f4.offset).take (P.cellsOf f4.type)) = some y4 ∧ DataW.trod enc P w base spare held n f5.type ((cs.drop f5.offset).take (P.cellsOf f5.type)) = some y5 ∧ DataW.trod enc P w base spare held n f6.type ((cs.drop f6.offset).take (P.cellsOf f6.type)) = some y6 := by
  obtain ⟨xs, n, _, rfl, hl, hlen, hf⟩ := DataW.trod_struct ht h
  match xs, hlen with
  | [y0, y1, y2, y3, y4, y5, y6], _ => exact ⟨y0, y1, y2, y3, y4, y5, y6, n, hl, by simpa using hf 0 f0 rfl, by simpa using hf 1 f1 rfl, by simpa using hf 2 f2 rfl, by simpa using hf 3 f3 rfl, by simpa using hf 4 f4 rfl, by simpa using hf 5 f5 rfl, by simpa using hf 6 f6 rfl⟩
theorem agg7 {cs : Array Value} (h : cs.size = 7) : ∃ a b c d e f g, cs = #[a, b, c, d, e, f, g] := by
  obtain ⟨l⟩ := cs
  match l, h with
  | [a, b, c, d, e, f, g], _ => exact ⟨a, b, c, d, e, f, g, rfl⟩
theorem conf_cells {n : Nat} {cs : List Value} {x : DataW H × List MemPlace} (h : DataW.trod enc Try.prog W 0 (fun _ => true) true n 51 cs = some x) :
    ∃ c : Cf.C, cs = [.int .i64 c.trees, .int .i64 c.depth, .int .i64 c.most, .int .i64 c.rate, .int .i64 c.l2, .int .i64 c.prior, .int .i64 c.seed] := by
  obtain ⟨y0, y1, y2, y3, y4, y5, y6, m, hl, h0, h1, h2, h3, h4, h5, h6⟩ := trod_seven Try.underlying51 h
  rw [show Try.prog.cellsOf 51 = 7 by kernel_rfl] at hl
  rw [show Try.prog.cellsOf 3 = 1 by kernel_rfl] at h0 h1 h2 h3 h4 h5 h6
  match cs, hl with
  | [a0, a1, a2, a3, a4, a5, a6], _ =>
    obtain ⟨i0, rfl, _⟩ := int_cell (by simpa using h0)
    obtain ⟨i1, rfl, _⟩ := int_cell (by simpa using h1)
    obtain ⟨i2, rfl, _⟩ := int_cell (by simpa using h2)
    obtain ⟨i3, rfl, _⟩ := int_cell (by simpa using h3)
    obtain ⟨i4, rfl, _⟩ := int_cell (by simpa using h4)
    obtain ⟨i5, rfl, _⟩ := int_cell (by simpa using h5)
    obtain ⟨i6, rfl, _⟩ := int_cell (by simpa using h6)
    exact ⟨⟨i0, i1, i2, i3, i4, i5, i6⟩, rfl⟩
theorem conf_open {base : Nat} {v : Value} {d : DataW H} {p : List MemPlace} (hv : Value.okWide Try.prog W .any base 51 v) (h : DataW.Trod enc Try.prog W 0 (fun _ => true) true 51 v d p) :
    ∃ c : Cf.C, v = .agg #[.int .i64 c.trees, .int .i64 c.depth, .int .i64 c.most, .int .i64 c.rate, .int .i64 c.l2, .int .i64 c.prior, .int .i64 c.seed] := by
  obtain ⟨cs, rfl, hc⟩ := okWide_struct Try.underlying51 hv
  rw [show Try.prog.cellsOf 51 = 7 by kernel_rfl] at hc
  obtain ⟨u0, u1, u2, u3, u4, u5, u6, rfl⟩ := agg7 hc
  obtain ⟨n, hn⟩ := h
  obtain ⟨s, e⟩ := conf_cells hn
  simp [Value.cells] at e
  obtain ⟨rfl, rfl, rfl, rfl, rfl, rfl, rfl⟩ := e
  exact ⟨s, rfl⟩
end
end Go.Proofs.Ytbjnhdhnlofibaa.Op
