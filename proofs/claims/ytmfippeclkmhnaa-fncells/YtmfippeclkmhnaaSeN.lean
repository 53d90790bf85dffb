/-
  Rows as the laws hold them, further: a copy of lists of lists, marks and whether they are held; a variable of five cells; rows as a whole.
-/
import Derived.Test.YtmfippeclkmhnaaSeM
namespace Go.Proofs.Ytmfippeclkmhnaa.Sv
open Go.RowKit
open Go.Proofs.Ytmfippeclkmhnaa.Li (iv ret_bool ret_int below_none IsL)
open Go.Proofs.Ytmfippeclkmhnaa.Tb (sub sub_yes sub_no)
open Go.Proofs.Ytmfippeclkmhnaa.Tm (pv)
set_option linter.unusedVariables false

/-- Lists of lists that may be written, in blocks of B; each in a block of its own. -/
def OwV (w : World) (B : Nat → Prop) (v : Value) (xs : List (List Int)) : Prop :=
  ∃ a cap, v = .slice a xs.length cap ∧ (xs = [] ∨ ∃ (g off : Nat) (V : Nat → Value) (bl : Nat → Nat), a = some ⟨g, off, none⟩ ∧ B g ∧ g < w.heap.size ∧ (∀ j (hj : j < xs.length), w.cell? ⟨g, off + j, none⟩ = some (V j) ∧ OwI w (fun k => k = bl j) (V j) xs[j]) ∧ (∀ j, j < xs.length → B (bl j) ∧ ¬ bl j = g) ∧ ∀ i j, i < xs.length → j < xs.length → ¬ i = j → ¬ bl i = bl j)
theorem OwV.isv {w : World} {B : Nat → Prop} {v : Value} {xs : List (List Int)} (h : OwV w B v xs) : ∃ a cap, v = .slice a xs.length cap ∧ IsV w a xs := by
  obtain ⟨a, cap, e, h⟩ := h
  refine ⟨a, cap, e, ?_⟩
  rcases h with h | ⟨g, off, V, bl, rfl, _, hg, hc, _⟩
  · exact .inl h
  · refine .inr ⟨g, off, rfl, hg, fun j hj => ?_⟩
    obtain ⟨h1, h2⟩ := hc j hj
    obtain ⟨a', c', e', hi⟩ := h2.isl
    exact ⟨a', c', by rw [h1, e'], hi⟩
theorem OwV.fr {w w1 : World} {B B' : Nat → Prop} {v : Value} {xs : List (List Int)} (h : OwV w B v xs) (hf : Fr B' w w1) (hd : ∀ k, B k → ¬ B' k) : OwV w1 B v xs := by
  obtain ⟨a, cap, e, h⟩ := h
  refine ⟨a, cap, e, ?_⟩
  rcases h with h | ⟨g, off, V, bl, ha, hb, hg, hc, hn, hi⟩
  · exact .inl h
  · refine .inr ⟨g, off, V, bl, ha, hb, Nat.lt_of_lt_of_le hg hf.size, fun j hj => ?_, hn, hi⟩
    obtain ⟨h1, h2⟩ := hc j hj
    refine ⟨?_, h2.fr hf (fun k e => by subst e; exact hd _ (hn j hj).1)⟩
    rw [World.cell?_of_block (w := w) (a := ⟨g, off + j, none⟩) (hf.block g hg (hd g hb))]; exact h1
theorem OwV.below {w w1 : World} {B : Nat → Prop} {v : Value} {xs : List (List Int)} (h : OwV w B v xs) (hb : Below w.heap.size w w1) : OwV w1 B v xs := h.fr (fr_below (B := fun _ => False) hb) (fun _ _ e => e)
theorem OwV.mono {w : World} {B B' : Nat → Prop} {v : Value} {xs : List (List Int)} (h : OwV w B v xs) (hb : ∀ k, B k → B' k) : OwV w B' v xs := by
  obtain ⟨a, cap, e, h⟩ := h
  refine ⟨a, cap, e, ?_⟩
  rcases h with h | ⟨g, off, V, bl, ha, hg, r1, r2, hn, hi⟩
  · exact .inl h
  · exact .inr ⟨g, off, V, bl, ha, hb g hg, r1, r2, fun j hj => ⟨hb _ (hn j hj).1, (hn j hj).2⟩, hi⟩
theorem info_vec : (Try.prog.info? 50).map (fun i => (i.zero, i.size, i.bytes)) = some (some (.agg #[.slice none 0 0]), 1, 24) := by kernel_rfl
end Go.Proofs.Ytmfippeclkmhnaa.Sv
