/-
  Which labels are right; contracts of both tests of a label.
-/
import Derived.Test.YtkiddmbenepfjaaGreatLists
namespace Go.Proofs.YtkiddmbenepfjaaGreat.Tk
open Go.RowKit
open Go.Proofs.YtkiddmbenepfjaaGreat.Li (ret_bool btw between_any)

def lok (l : Int) : Bool := decide (-1000000 ≤ l ∧ l ≤ 1000000)
set_option maxHeartbeats 400000 in
theorem ilab (w : World) (l : Int) :
    Calls Tryz.prog 86 #[.int .i64 l] w fun e w' => e = .returned (.bool (lok l)) ∧ w' = w := by
  by_cases h1 : -1000000 ≤ l <;> by_cases h2 : l ≤ 1000000
  all_goals
    go_enter Tryz.func86, Tryz.ntmps86
    go_wp2
    go_ret
    refine ⟨ret_bool ?_, rfl⟩
    simp [lok, h1, h2]
set_option maxHeartbeats 400000 in
theorem slab (w : World) (l : Int) :
    Calls Tryz.prog 74 #[.int .i64 l] w fun e w' => e = .returned (.bool (lok l)) ∧ w' = w := by
  go_enter Tryz.func74, Tryz.ntmps74
  go_wp2_with (go_at_call 42; refine (between_any _ _ _ _).mono ?_; rintro e w' ⟨rfl, rfl⟩)
  go_ret
  exact ⟨rfl, rfl⟩
end Go.Proofs.YtkiddmbenepfjaaGreat.Tk
