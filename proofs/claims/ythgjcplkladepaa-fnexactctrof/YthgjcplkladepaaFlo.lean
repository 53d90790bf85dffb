/-
  Division downwards: contracts of the program's and of its model's.
-/
import Derived.Test.YthgjcplkladepaaRows
import Derived.WalkKit
namespace Go.Proofs.Ythgjcplkladepaa.Ar
open Go.RowKit

def flo (a b : Int) : Int := if ¬ a.tmod b = 0 ∧ ¬ (decide (a < 0) = decide (b < 0)) then wrap64 (wrap64 (a.tdiv b) - 1) else wrap64 (a.tdiv b)
theorem ret_int {k : IntKind} {a b : Int} (h : a = b) : Ending.returned (.int k a) = .returned (.int k b) := by rw [h]
theorem flo_one {a b : Int} (h : a.tmod b = 0) : flo a b = wrap64 (a.tdiv b) := by unfold flo; rw [if_neg (fun hh => hh.1 h)]
theorem flo_two {a b : Int} (h : ¬ a.tmod b = 0) (h' : (a.tmod b != 0) = true ∧ (!decide (a < 0) == decide (b < 0)) = true) : flo a b = wrap64 (wrap64 (a.tdiv b) - 1) := by
  unfold flo; rw [if_pos ⟨h, fun e => by rw [e] at h'; simp at h'⟩]
theorem flo_three {a b : Int} (h : ¬ a.tmod b = 0) (h' : (a.tmod b != 0) = false ∨ (!decide (a < 0) == decide (b < 0)) = false) : flo a b = wrap64 (a.tdiv b) := by
  unfold flo
  rw [if_neg]
  rintro ⟨_, e⟩
  rcases h' with h' | h'
  · simp at h'; exact h h'
  · simp at h'; exact e (by simpa using h')

set_option maxHeartbeats 400000 in
theorem floorBy_any (a b : Int) (w : World) (hb : ¬ b = 0) :
    Calls Try.prog 48 #[.int .i64 a, .int .i64 b] w fun e w' => e = .returned (.int .i64 (flo a b)) ∧ w' = w := by
  go_enter Try.func48, Try.ntmps48
  go_wp2
  all_goals go_ret
  all_goals refine ⟨ret_int ?_, rfl⟩
  · exact (flo_one ‹_›).symm
  · exact (flo_two ‹_› ‹_›).symm
  · exact (flo_three ‹_› ‹_›).symm
set_option maxHeartbeats 400000 in
theorem floor_any (a b : Int) (w : World) (hb : ¬ b = 0) :
    Calls Try.prog 39 #[.int .i64 a, .int .i64 b] w fun e w' => e = .returned (.int .i64 (flo a b)) ∧ w' = w := by
  go_enter Try.func39, Try.ntmps39
  go_wp2
  all_goals go_ret
  all_goals refine ⟨ret_int ?_, rfl⟩
  · exact (flo_one ‹_›).symm
  · exact (flo_two ‹_› ‹_›).symm
  · exact (flo_three ‹_› ‹_›).symm
end Go.Proofs.Ythgjcplkladepaa.Ar
