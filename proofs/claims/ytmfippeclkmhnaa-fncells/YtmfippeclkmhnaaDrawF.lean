/-
  What the model draws for trees: the numbers of a row (feats).
-/
import Derived.Test.YtmfippeclkmhnaaApI
import Derived.Test.YtmfippeclkmhnaaCur
import Derived.Deep.AppendLies
namespace Go.Proofs.Ytmfippeclkmhnaa.Df
open Go.RowKit
open Go.Proofs.Ytmfippeclkmhnaa.Li Go.Proofs.Ytmfippeclkmhnaa.Ai
set_option linter.unusedVariables false

theorem cur_new {w w1 : World} {b : Nat} {K : Int} {r : Option Nat} (h : Cu.Cur w b K) (h' : w.grownBy w1 r) (hr : ∀ k, r = some k → b < k) : Cu.Cur w1 b K :=
  h.keptB h'.size (fun k hk => h'.block k (by have := h.lt; omega) (fun e => by have := hr k e.symm; omega))
theorem isl_take {w : World} {base : Nat} {g cap : Nat} {xs : List Int} (h : Own w base (.slice (some ⟨g, 0, none⟩) xs.length cap) xs) (k : Nat) (hk : k ≤ xs.length) : IsL w (some ⟨g, 0, none⟩) (xs.take k) := by
  obtain ⟨a, c, e, hi⟩ := h.isl
  cases e
  rcases hi with rfl | ⟨b, off, e, hb, hc⟩
  · exact .inl (by simp)
  · cases e
    refine .inr ⟨g, 0, rfl, hb, fun j hj => ?_⟩
    have hj' : j < xs.length := by simp at hj; omega
    rw [hc j hj']
    simp
end Go.Proofs.Ytmfippeclkmhnaa.Df
