/-
  How often each fold comes up: as often as may be, or once more.
-/
import Derived.Test.YtdcbcacgppffgaaFol
namespace Go.Proofs.Ytdcbcacgppffgaa.Fo
def tally (k j f : Nat) : Nat := (j + (k - 1 - f)) / k
theorem tally_step_all : ∀ k, k < 11 → ∀ j, j < 40 → ∀ f, f < k → tally k (j + 1) f = tally k j f + (if f = j % k then 1 else 0) := by decide +kernel
theorem tally_end_all : ∀ k, k < 11 → ∀ n, n < 41 → ∀ f, f < k → n / k ≤ tally k n f ∧ tally k n f ≤ n / k + 1 := by decide +kernel
theorem tally_zero_all : ∀ k, k < 11 → ∀ f, f < k → tally k 0 f = 0 := by decide +kernel
theorem tally_le_all : ∀ k, k < 11 → ∀ j, j < 41 → ∀ f, f < k → tally k j f ≤ 41 := by decide +kernel
theorem tdiv_nat (a b : Nat) : (a : Int).tdiv (b : Int) = ((a / b : Nat) : Int) := by rw [Int.tdiv_eq_ediv_of_nonneg (by omega)]; simp
end Go.Proofs.Ytdcbcacgppffgaa.Fo
