/-
  Which labels are right; contracts of both tests of a label.
-/
import Derived.Test.YtbjnhdhnlofibaaLists
namespace Go.Proofs.Ytbjnhdhnlofibaa.Tk
open Go.RowKit
open Go.Proofs.Ytbjnhdhnlofibaa.Li (ret_bool btw between_any)

def lok (l : Int) : Bool := decide (-1000000 ≤ l ∧ l ≤ 1000000)
set_option maxHeartbeats 400000 in
theorem ilab (w : World) (l : Int) :
    Calls Try.prog 98 #[.int .i64 l] w fun e w' => e = .returned (.bool (lok l)) ∧ w' = w := by
  by_cases h1 : -1000000 ≤ l <;> by_cases h2 : l ≤ 1000000
  all_goals
    go_enter Try.func98, Try.ntmps98
    go_wp2
    go_ret
    refine ⟨ret_bool ?_, rfl⟩
    simp [lok, h1, h2]
set_option maxHeartbeats 400000 in
theorem slab (w : World) (l : Int) :
    Calls Try.prog 106 #[.int .i64 l] w fun e w' => e = .returned (.bool (lok l)) ∧ w' = w := by
  go_enter Try.func106, Try.ntmps106
  go_wp2_with (go_at_call 38; refine (between_any _ _ _ _).mono ?_; rintro e w' ⟨rfl, rfl⟩)
  go_ret
  exact ⟨rfl, rfl⟩
end Go.Proofs.Ytbjnhdhnlofibaa.Tk
