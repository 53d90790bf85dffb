/-
  Which labels are right; contracts of both tests of a label.
-/
import Derived.Test.YthgjcplkladepaaLists
namespace Go.Proofs.Ythgjcplkladepaa.Tk
open Go.RowKit
open Go.Proofs.Ythgjcplkladepaa.Li (ret_bool btw between_any)

def lok (l : Int) : Bool := decide (-1000000 ≤ l ∧ l ≤ 1000000)
set_option maxHeartbeats 400000 in
theorem ilab (w : World) (l : Int) :
    Calls Try.prog 54 #[.int .i64 l] w fun e w' => e = .returned (.bool (lok l)) ∧ w' = w := by
  by_cases h1 : -1000000 ≤ l <;> by_cases h2 : l ≤ 1000000
  all_goals
    go_enter Try.func54, Try.ntmps54
    go_wp2
    go_ret
    refine ⟨ret_bool ?_, rfl⟩
    simp [lok, h1, h2]
set_option maxHeartbeats 400000 in
theorem slab (w : World) (l : Int) :
    Calls Try.prog 49 #[.int .i64 l] w fun e w' => e = .returned (.bool (lok l)) ∧ w' = w := by
  go_enter Try.func49, Try.ntmps49
  go_wp2_with (go_at_call 38; refine (between_any _ _ _ _).mono ?_; rintro e w' ⟨rfl, rfl⟩)
  go_ret
  exact ⟨rfl, rfl⟩
end Go.Proofs.Ythgjcplkladepaa.Tk
