/-
  Which labels are right; contracts of both tests of a label.
-/
import Derived.Test.YtodlolhenghlcaaLists
namespace Go.Proofs.Ytodlolhenghlcaa.Tk
open Go.RowKit
open Go.Proofs.Ytodlolhenghlcaa.Li (ret_bool btw between_any)

def lok (l : Int) : Bool := decide (-1000000 ≤ l ∧ l ≤ 1000000)
set_option maxHeartbeats 400000 in
theorem ilab (w : World) (l : Int) :
    Calls Try.prog 45 #[.int .i64 l] w fun e w' => e = .returned (.bool (lok l)) ∧ w' = w := by
  by_cases h1 : -1000000 ≤ l <;> by_cases h2 : l ≤ 1000000
  all_goals
    go_enter Try.func45, Try.ntmps45
    go_wp2
    go_ret
    refine ⟨ret_bool ?_, rfl⟩
    simp [lok, h1, h2]
set_option maxHeartbeats 400000 in
theorem slab (w : World) (l : Int) :
    Calls Try.prog 44 #[.int .i64 l] w fun e w' => e = .returned (.bool (lok l)) ∧ w' = w := by
  go_enter Try.func44, Try.ntmps44
  go_wp2_with (go_at_call 27; refine (between_any _ _ _ _).mono ?_; rintro e w' ⟨rfl, rfl⟩)
  go_ret
  exact ⟨rfl, rfl⟩
end Go.Proofs.Ytodlolhenghlcaa.Tk
