/-
  Lists of trees put one behind the other.
-/
import Derived.Test.YtomembbdbmjgmaaDrawM
import Derived.Test.YtomembbdbmjgmaaSmW
namespace Go.Proofs.Ytomembbdbmjgmaa.Df
open Go.RowKit
open Go.Proofs.Ytomembbdbmjgmaa.Tr Go.Proofs.Ytomembbdbmjgmaa.Tm
set_option linter.unusedVariables false

/-- The cells of trees. -/
def TC (w : World) (cs : List Value) (ts : List T) : Prop := cs.length = ts.length * 2 ∧ ∀ j (hj : j < ts.length), ∃ v0 v1, cs[j * 2]? = some v0 ∧ cs[j * 2 + 1]? = some v1 ∧ TrIs w v0 v1 ts[j]
theorem TC.below {w w1 : World} {cs : List Value} {ts : List T} (h : TC w cs ts) (hb : Below w.heap.size w w1) : TC w1 cs ts :=
  ⟨h.1, fun j hj => by obtain ⟨v0, v1, e0, e1, r⟩ := h.2 j hj; exact ⟨v0, v1, e0, e1, r.below hb⟩⟩
theorem TC.one {w : World} {cs : List Value} {ts : List T} (h : TC w cs ts) : ∀ u ∈ cs, u.oneCell' = true := by
  intro u hu
  obtain ⟨i, hi, rfl⟩ := List.mem_iff_getElem.1 hu
  have hl := h.1
  have hj : i / 2 < ts.length := by omega
  obtain ⟨v0, v1, e0, e1, a, c, a', c', f0, f1, _⟩ := h.2 (i / 2) hj
  rcases (by omega : i = i / 2 * 2 ∨ i = i / 2 * 2 + 1) with e | e
  · rw [← e, List.getElem?_eq_getElem hi] at e0
    injection e0 with e0
    rw [e0, f0]; rfl
  · rw [← e, List.getElem?_eq_getElem hi] at e1
    injection e1 with e1
    rw [e1, f1]; rfl
theorem TC.append {w : World} {cs ds : List Value} {ts us : List T} (h : TC w cs ts) (h' : TC w ds us) : TC w (cs ++ ds) (ts ++ us) := by
  have hl := h.1
  have hl' := h'.1
  refine ⟨by simp [hl, hl']; omega, fun j hj => ?_⟩
  by_cases e : j < ts.length
  · obtain ⟨v0, v1, e0, e1, r⟩ := h.2 j e
    exact ⟨v0, v1, by rw [List.getElem?_append_left (by omega)]; exact e0, by rw [List.getElem?_append_left (by omega)]; exact e1, by rw [List.getElem_append_left e]; exact r⟩
  · have hj' : j - ts.length < us.length := by simp at hj; omega
    obtain ⟨v0, v1, e0, e1, r⟩ := h'.2 (j - ts.length) hj'
    refine ⟨v0, v1, ?_, ?_, by rw [List.getElem_append_right (by omega)]; exact r⟩
    · rw [List.getElem?_append_right (by omega), show j * 2 - cs.length = (j - ts.length) * 2 by omega]; exact e0
    · rw [List.getElem?_append_right (by omega), show j * 2 + 1 - cs.length = (j - ts.length) * 2 + 1 by omega]; exact e1
theorem ist_cells {w : World} {ad : Addr} {ts : List T} (h : IsT w (some ad) ts) : ∃ cs, TC w cs ts ∧ ∀ j u, cs[j]? = some u → w.cell? (ad.add j) = some u := by
  rcases h with rfl | ⟨b, off, e, hb, hc⟩
  · exact ⟨[], ⟨rfl, fun j hj => by simp at hj⟩, fun j u h => by simp at h⟩
  · cases e
    have key : ∀ i, i < ts.length * 2 → ∃ v, w.cell? ((⟨b, off, none⟩ : Addr).add i) = some v := fun i hi => by
      obtain ⟨v0, v1, ⟨c0, c1⟩, _⟩ := hc (i / 2) (by omega)
      rcases (by omega : i = i / 2 * 2 ∨ i = i / 2 * 2 + 1) with e | e
      · exact ⟨v0, by rw [Go.WideShapes.add_plain, e]; exact c0⟩
      · exact ⟨v1, by rw [Go.WideShapes.add_plain, e]; exact c1⟩
    refine ⟨(List.range (ts.length * 2)).map (fun i => (w.cell? ((⟨b, off, none⟩ : Addr).add i)).getD undef), ⟨by simp, fun j hj => ?_⟩, fun j u hu => ?_⟩
    · obtain ⟨v0, v1, ⟨c0, c1⟩, r⟩ := hc j hj
      refine ⟨v0, v1, ?_, ?_, r⟩
      · rw [List.getElem?_map, List.getElem?_range (by omega)]
        simp only [Option.map_some, Go.WideShapes.add_plain]
        rw [c0]; rfl
      · rw [List.getElem?_map, List.getElem?_range (by omega)]
        simp only [Option.map_some, Go.WideShapes.add_plain]
        rw [← Nat.add_assoc, c1]; rfl
    · rw [List.getElem?_map] at hu
      by_cases hj : j < ts.length * 2
      · obtain ⟨v, hv⟩ := key j hj
        rw [List.getElem?_range hj] at hu
        simp only [Option.map_some, hv, Option.getD_some, Option.some.injEq] at hu
        rw [hv, hu]
      · rw [List.getElem?_eq_none (by simpa using hj)] at hu
        simp at hu
theorem ist_row {w : World} {base : Nat} {v : Value} {cs : List Value} {ts : List T} (ho : w.ownsRow base 27 2 v ts.length cs) (h : TC w cs ts) : ∃ a c, v = .slice a ts.length c ∧ IsT w a ts := by
  have hl := h.1
  rcases ho.2 with ⟨e, h0⟩ | ⟨g, cap, cur, e, hb, hh, r⟩
  · obtain rfl := List.length_eq_zero_iff.1 h0
    exact ⟨none, 0, e, .inl rfl⟩
  · subst e
    refine ⟨_, cap, rfl, .inr ⟨g, 0, rfl, (World.ownsRow.lt ho g rfl).2, fun j hj => ?_⟩⟩
    obtain ⟨v0, v1, e0, e1, r⟩ := h.2 j hj
    refine ⟨v0, v1, ⟨?_, ?_⟩, r⟩
    · rw [Nat.zero_add, World.ownsRow.cellAt ho (j * 2) (by omega), e0]
    · rw [Nat.zero_add, World.ownsRow.cellAt ho (j * 2 + 1) (by omega), e1]
theorem cell_up {w w1 : World} {a : Addr} {u : Value} (hb : Below w.heap.size w w1) (h : w.cell? a = some u) : w1.cell? a = some u := (hb.cell (World.block_lt_of_cell? w _ h)).trans h
theorem below_app' {W w w1 : World} (hb : Below W.heap.size W w) (hg : w.grownBy w1 (some W.heap.size)) : Below W.heap.size W w1 := hb.trans ⟨hg.os, hg.tape, hg.output, hg.size, fun k hk => hg.block k (by have := hb.size; omega) (fun e => by injection e with e; omega)⟩
theorem below_app2 {W w w1 : World} {t : TypeId} {s n : Nat} {v : Value} {vs : List Value} (hb : Below W.heap.size W w) (hg : w.grownBy w1 v.ownBlock) (ho : w.ownsRow W.heap.size t s v n vs) : Below W.heap.size W w1 := hb.trans ⟨hg.os, hg.tape, hg.output, hg.size, fun k hk => hg.block k (by have := hb.size; omega) (fun e => by have := (World.ownsRow.lt ho k e.symm).1; omega)⟩
theorem row_eq {w : World} {base n : Nat} {v : Value} {cs ds : List Value} {ts : List T} (hn : n = ts.length) (hc : cs = ds) (h : w.ownsRow base 27 2 v n cs) : w.ownsRow base 27 2 v ts.length ds := by subst hn; subst hc; exact h
end Go.Proofs.Ytomembbdbmjgmaa.Df
