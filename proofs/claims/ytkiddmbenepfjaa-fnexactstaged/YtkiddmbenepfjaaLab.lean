/-
  Which labels are right; contracts of both tests of a label.
-/
import Derived.Test.YtkiddmbenepfjaaLists
namespace Go.Proofs.Ytkiddmbenepfjaa.Tk
open Go.RowKit
open Go.Proofs.Ytkiddmbenepfjaa.Li (ret_bool btw between_any)

def lok (l : Int) : Bool := decide (-1000000 ≤ l ∧ l ≤ 1000000)
set_option maxHeartbeats 400000 in
theorem ilab (w : World) (l : Int) :
    Calls Try.prog 109 #[.int .i64 l] w fun e w' => e = .returned (.bool (lok l)) ∧ w' = w := by
  by_cases h1 : -1000000 ≤ l <;> by_cases h2 : l ≤ 1000000
  all_goals
    go_enter Try.func109, Try.ntmps109
    go_wp2
    go_ret
    refine ⟨ret_bool ?_, rfl⟩
    simp [lok, h1, h2]
end Go.Proofs.Ytkiddmbenepfjaa.Tk
