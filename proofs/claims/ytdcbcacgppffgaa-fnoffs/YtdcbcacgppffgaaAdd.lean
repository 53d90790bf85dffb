/-
  Sums of fixed numbers, of the program and of the model.
-/
import Derived.Test.YtdcbcacgppffgaaLists
namespace Go.Proofs.Ytdcbcacgppffgaa.Ad
open Go.RowKit
open Go.Proofs.Ytdcbcacgppffgaa.Li (ret_int)

def clip (x : Int) : Int := if x < -1000000000 then -1000000000 else if 1000000000 < x then 1000000000 else x
theorem clip_bd (x : Int) : -1000000000 ≤ clip x ∧ clip x ≤ 1000000000 := by unfold clip; split <;> (try split) <;> omega
theorem clip_id (x : Int) (h : -1000000000 ≤ x) (h' : x ≤ 1000000000) : clip x = x := by unfold clip; rw [if_neg (by omega), if_neg (by omega)]
theorem clip_clip (x : Int) : clip (clip x) = clip x := clip_id _ (clip_bd x).1 (clip_bd x).2
def fadd (a b : Int) : Int := clip (clip a + clip b)
theorem fadd_zero (a : Int) : fadd a 0 = clip a := by
  unfold fadd
  rw [show clip 0 = 0 by decide, Int.add_zero, clip_clip]
theorem fadd_bd (a b : Int) : -1000000000 ≤ fadd a b ∧ fadd a b ≤ 1000000000 := clip_bd _
set_option maxHeartbeats 400000 in
theorem bounded_any (x : Int) (w : World) :
    Calls Try.prog 32 #[.int .i64 x] w fun e w' => e = .returned (.int .i64 (clip x)) ∧ w' = w := by
  go_enter Try.func32, Try.ntmps32
  go_wp2
  all_goals go_ret
  all_goals refine ⟨ret_int ?_, rfl⟩
  all_goals unfold clip; (repeat' split) <;> (try split at *) <;> omega
set_option maxHeartbeats 400000 in
theorem clip_any (x : Int) (w : World) :
    Calls Try.prog 24 #[.int .i64 x] w fun e w' => e = .returned (.int .i64 (clip x)) ∧ w' = w := by
  go_enter Try.func24, Try.ntmps24
  go_wp2
  all_goals go_ret
  all_goals refine ⟨ret_int ?_, rfl⟩
  all_goals unfold clip; (repeat' split) <;> (try split at *) <;> omega
end Go.Proofs.Ytdcbcacgppffgaa.Ad
