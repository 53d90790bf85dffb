/-
  Rows marked, and whether the marks are held; cells as the laws hold them.
-/
import Derived.Test.YtmfippeclkmhnaaSeR
import Derived.Test.YtmfippeclkmhnaaTrM
import Derived.Test.YtmfippeclkmhnaaTrT
namespace Go.Proofs.Ytmfippeclkmhnaa.Sv
open Go.RowKit
open Go.Proofs.Ytmfippeclkmhnaa.Li (iv ret_bool ret_int below_none IsL marks marks_length marks_get)
open Go.Proofs.Ytmfippeclkmhnaa.Tb (sub sub_yes sub_no)
open Go.Proofs.Ytmfippeclkmhnaa.Se (R)
open Go.Proofs.Ytmfippeclkmhnaa.Tm (pv pv_length pv_get pv_set IsP LikeP likeP_set likeP_all pmarks pmarks_length pmarks_get)
set_option linter.unusedVariables false

theorem Wr.fr {w w1 : World} {B : Nat → Prop} {g off : Nat} {vs : List Value} (h : Wr w g off vs) (hf : Fr B w w1) (hn : ¬ B g) : Wr w1 g off vs := h.keptAt hf.size (hf.block g h.1 hn)
/-- Cells that may be written, in a block of B. -/
def OwC (w : World) (B : Nat → Prop) (v : Value) (ps : List (Int × Int)) : Prop := ∃ a cap, v = .slice a ps.length cap ∧ (ps = [] ∨ ∃ g off, a = some ⟨g, off, none⟩ ∧ B g ∧ Wr w g off (pv ps))
theorem wr_isp {w : World} {g off : Nat} {ps : List (Int × Int)} (h : Wr w g off (pv ps)) : IsP w (some ⟨g, off, none⟩) ps := by
  refine .inr ⟨g, off, rfl, h.1, fun j hj => ?_⟩
  have hp := pv_get ps j hj
  have hl := pv_length ps
  have h1 := (h.2 (j * 2) (by omega)).1
  have h2 := (h.2 (j * 2 + 1) (by omega)).1
  rw [List.getElem?_eq_getElem (by omega)] at hp
  rw [List.getElem?_eq_getElem (by omega)] at hp
  refine ⟨by rw [h1]; exact hp.1, ?_⟩
  rw [show off + j * 2 + 1 = off + (j * 2 + 1) by omega, h2]; exact hp.2
theorem OwC.isp {w : World} {B : Nat → Prop} {v : Value} {ps : List (Int × Int)} (h : OwC w B v ps) : ∃ a cap, v = .slice a ps.length cap ∧ IsP w a ps := by
  obtain ⟨a, cap, e, h⟩ := h
  refine ⟨a, cap, e, ?_⟩
  rcases h with h | ⟨g, off, rfl, _, hw⟩
  · exact .inl h
  · exact wr_isp hw
theorem OwC.fr {w w1 : World} {B B' : Nat → Prop} {v : Value} {xs : List (Int × Int)} (h : OwC w B v xs) (hf : Fr B' w w1) (hd : ∀ k, B k → ¬ B' k) : OwC w1 B v xs := by
  obtain ⟨a, cap, e, h⟩ := h
  refine ⟨a, cap, e, ?_⟩
  rcases h with h | ⟨g, off, ha, hb, hw⟩
  · exact .inl h
  · exact .inr ⟨g, off, ha, hb, hw.fr hf (hd g hb)⟩
theorem OwC.below {w w1 : World} {B : Nat → Prop} {v : Value} {xs : List (Int × Int)} (h : OwC w B v xs) (hb : Below w.heap.size w w1) : OwC w1 B v xs := h.fr (fr_below (B := fun _ => False) hb) (fun _ _ e => e)
theorem OwC.mono {w : World} {B B' : Nat → Prop} {v : Value} {xs : List (Int × Int)} (h : OwC w B v xs) (hb : ∀ k, B k → B' k) : OwC w B' v xs := by
  obtain ⟨a, cap, e, h⟩ := h
  refine ⟨a, cap, e, ?_⟩
  rcases h with h | ⟨g, off, ha, hg, hw⟩
  · exact .inl h
  · exact .inr ⟨g, off, ha, hb g hg, hw⟩
theorem wr_row {w : World} {base g n s cap : Nat} {t : TypeId} {vs : List Value} (h : w.ownsRow base t s (.slice (some ⟨g, 0, none⟩) n cap) n vs) : Wr w g 0 vs := by
  refine ⟨(World.ownsRow.lt h g rfl).2, fun j hj => ?_⟩
  rw [Nat.zero_add]
  exact ⟨by rw [World.ownsRow.cellAt h j (by have := h.1; omega), List.getElem?_eq_getElem hj], World.ownsRow.frozenAt h j⟩
theorem owc_row {w : World} {base : Nat} {t : TypeId} {v : Value} {ps : List (Int × Int)} (h : w.ownsRow base t 2 v ps.length (pv ps)) : OwC w (fun k => base ≤ k ∧ k < w.heap.size) v ps := by
  have h' := h
  rcases h.2 with ⟨rfl, h0⟩ | ⟨g, cap, cur, rfl, hb, hh, _⟩
  · obtain rfl := List.length_eq_zero_iff.1 h0
    exact ⟨none, 0, rfl, .inl rfl⟩
  · exact ⟨_, cap, rfl, .inr ⟨g, 0, rfl, ⟨hb, (World.ownsRow.lt h' g rfl).2⟩, wr_row h'⟩⟩
theorem info_cell : (Try.prog.info? 36).map (fun i => (i.zero, i.size, i.bytes)) = some (some (.agg #[.int .i64 0, .int .i64 0]), 2, 16) := by kernel_rfl
theorem pv_made (n : Nat) : (madeCells (Value.agg #[.int .i64 0, .int .i64 0]).cells (n * 2)).toList = pv (Se.none0 n) := by
  apply List.ext_getElem?
  intro p
  by_cases hp : p < n * 2
  · have hz : (madeCells (Value.agg #[.int .i64 0, .int .i64 0]).cells (n * 2)).toList[p]? = some (.int .i64 0) := by
      have h2 : p % 2 < 2 := Nat.mod_lt _ (by decide)
      simp [madeCells, hp, Value.cells]
      rcases Nat.mod_two_eq_zero_or_one p with e | e <;> simp [e]
    rw [hz]
    have hg := pv_get (Se.none0 n) (p / 2) (by rw [Se.none0_length]; omega)
    rcases Nat.mod_two_eq_zero_or_one p with e | e
    · have := hg.1; rw [show p / 2 * 2 = p by omega] at this; rw [this]; simp [Se.none0]
    · have := hg.2; rw [show p / 2 * 2 + 1 = p by omega] at this; rw [this]; simp [Se.none0]
  · rw [List.getElem?_eq_none (by simp [madeCells]; omega), List.getElem?_eq_none (by rw [pv_length, Se.none0_length]; omega)]
theorem Wr.set2 {w : World} {g off : Nat} {ps : List (Int × Int)} (h : Wr w g off (pv ps)) (j : Nat) (hj : j < ps.length) (x y : Int) :
    Wr ((w.setCell ⟨g, off + j * 2, none⟩ (.int .i64 x)).setCell ⟨g, off + j * 2 + 1, none⟩ (.int .i64 y)) g off (pv (ps.set j (x, y))) := by
  have hl := pv_length ps
  have h1 := h.set (j * 2) (by omega) (.int .i64 x)
  have h2 := h1.set (j * 2 + 1) (by rw [List.length_set]; omega) (.int .i64 y)
  rw [pv_set] at h2
  rwa [show off + (j * 2 + 1) = off + j * 2 + 1 by omega] at h2
theorem Wr.at2 {w : World} {g off : Nat} {ps : List (Int × Int)} (h : Wr w g off (pv ps)) (j : Nat) (hj : j < ps.length) :
    (w.cell? ⟨g, off + j * 2, none⟩ = some (.int .i64 ps[j].1) ∧ w.cell? ⟨g, off + j * 2 + 1, none⟩ = some (.int .i64 ps[j].2)) ∧ w.frozen? ⟨g, off + j * 2, none⟩ = false ∧ w.frozen? ⟨g, off + j * 2 + 1, none⟩ = false := by
  have hl := pv_length ps
  rcases wr_isp h with h0 | ⟨b, o, e, _, hc⟩
  · subst h0; simp at hj
  · cases e
    refine ⟨hc j hj, (h.2 (j * 2) (by omega)).2, ?_⟩
    have := (h.2 (j * 2 + 1) (by omega)).2
    rwa [show off + (j * 2 + 1) = off + j * 2 + 1 by omega] at this
end Go.Proofs.Ytmfippeclkmhnaa.Sv
