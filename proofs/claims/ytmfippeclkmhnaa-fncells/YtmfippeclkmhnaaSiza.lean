/-
  How many the model draws.
-/
import Derived.Test.YtmfippeclkmhnaaCur
namespace Go.Proofs.Ytmfippeclkmhnaa.Dz
open Go.RowKit
set_option linter.unusedVariables false
set_option maxHeartbeats 1000000 in
theorem size_any (w : World) (b : Nat) (K : Int) (hc : Cu.Cur w b K) (hK : K ≤ 10000000000000000) (n : Int) (hn : 1 ≤ n) (hn' : n ≤ 1000000) :
    Calls Try.prog 43 #[.pointer (some ⟨b, 0, none⟩), .int .i64 n] w fun e w' => ∃ x : Int, e = .returned (.int .i64 x) ∧ 0 ≤ x ∧ x ≤ n ∧ w.grownBy w' (some b) ∧ w'.heap.size = w.heap.size ∧ Cu.Cur w' b (K + 1) := by
  have hc' := hc
  obtain ⟨a, len, cap, k, s, hlt, c0, c1, c2, f0, f1, f2, g1, _⟩ := hc'
  by_cases hk : n < 1 + (len : Int) / 8
  · go_enter Try.func43, Try.ntmps43
    go_wp2_with fail
    refine (Cu.pick_any _ _ _ hc (by omega) _ (by omega)).mono ?_
    rintro e w1 ⟨x, rfl, x0, x1, hg1, hz1, hc1⟩
    go_wp2
    go_ret
    exact ⟨x, rfl, x0, by omega, hg1, hz1, hc1⟩
  · go_enter Try.func43, Try.ntmps43
    go_wp2_with fail
    refine (Cu.pick_any _ _ _ hc (by omega) _ (by omega)).mono ?_
    rintro e w1 ⟨x, rfl, x0, x1, hg1, hz1, hc1⟩
    go_wp2
    go_ret
    exact ⟨x, rfl, x0, by omega, hg1, hz1, hc1⟩
end Go.Proofs.Ytmfippeclkmhnaa.Dz
