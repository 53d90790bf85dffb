/-
  Products of fixed numbers, of the program and of the model.
-/
import Derived.Test.YtbnjbmajfadmaaaFlo
namespace Go.Proofs.Ytbnjbmajfadmaaa.Ar
open Go.RowKit

def clip (x : Int) : Int := if x < -1000000000 then -1000000000 else if 1000000000 < x then 1000000000 else x
theorem clip_bd (x : Int) : -1000000000 ≤ clip x ∧ clip x ≤ 1000000000 := by unfold clip; split <;> (try split) <;> omega
def fmul (a b : Int) : Int := clip (flo (clip a * clip b) 1000)
theorem fmul_bd (a b : Int) : -1000000000 ≤ fmul a b ∧ fmul a b ≤ 1000000000 := clip_bd _
theorem mul_bd {a b : Int} (ha : -1000000000 ≤ a ∧ a ≤ 1000000000) (hb : -1000000000 ≤ b ∧ b ≤ 1000000000) : -1000000000000000000 ≤ a * b ∧ a * b ≤ 1000000000000000000 := by
  have h1 : (a * b).natAbs ≤ 1000000000 * 1000000000 := by rw [Int.natAbs_mul]; exact Nat.mul_le_mul (by omega) (by omega)
  omega
set_option maxHeartbeats 400000 in
theorem bounded_any (x : Int) (w : World) :
    Calls Try.prog 111 #[.int .i64 x] w fun e w' => e = .returned (.int .i64 (clip x)) ∧ w' = w := by
  go_enter Try.func111, Try.ntmps111
  go_wp2
  all_goals go_ret
  all_goals refine ⟨ret_int ?_, rfl⟩
  all_goals unfold clip; (repeat' split) <;> (try split at *) <;> omega
set_option maxHeartbeats 400000 in
theorem clip_any (x : Int) (w : World) :
    Calls Try.prog 103 #[.int .i64 x] w fun e w' => e = .returned (.int .i64 (clip x)) ∧ w' = w := by
  go_enter Try.func103, Try.ntmps103
  go_wp2
  all_goals go_ret
  all_goals refine ⟨ret_int ?_, rfl⟩
  all_goals unfold clip; (repeat' split) <;> (try split at *) <;> omega
set_option maxHeartbeats 400000 in
theorem times_any (a b : Int) (w : World) :
    Calls Try.prog 109 #[.int .i64 a, .int .i64 b] w fun e w' => e = .returned (.int .i64 (fmul a b)) ∧ w' = w := by
  have ha := clip_bd a
  have hb := clip_bd b
  have hm := mul_bd ha hb
  go_enter Try.func109, Try.ntmps109
  go_wp2_with (first | (go_at_call 111; refine (bounded_any _ _).mono ?_; rintro e w' ⟨rfl, rfl⟩) | (go_at_call 106; refine (floorBy_any _ _ _ (by omega)).mono ?_; rintro e w' ⟨rfl, rfl⟩))
  go_ret
  exact ⟨rfl, rfl⟩
set_option maxHeartbeats 400000 in
theorem imul_any (a b : Int) (w : World) :
    Calls Try.prog 105 #[.int .i64 a, .int .i64 b] w fun e w' => e = .returned (.int .i64 (fmul a b)) ∧ w' = w := by
  go_enter Try.func105, Try.ntmps105
  go_wp2_with (go_at_call 109; refine (times_any _ _ _).mono ?_; rintro e w' ⟨rfl, rfl⟩)
  go_ret
  exact ⟨rfl, rfl⟩
set_option maxHeartbeats 400000 in
theorem smul_any (a b : Int) (w : World) :
    Calls Try.prog 77 #[.int .i64 a, .int .i64 b] w fun e w' => e = .returned (.int .i64 (fmul a b)) ∧ w' = w := by
  have ha := clip_bd a
  have hb := clip_bd b
  have hm := mul_bd ha hb
  go_enter Try.func77, Try.ntmps77
  go_wp2_with (first | (go_at_call 103; refine (clip_any _ _).mono ?_; rintro e w' ⟨rfl, rfl⟩) | (go_at_call 78; refine (floor_any _ _ _ (by omega)).mono ?_; rintro e w' ⟨rfl, rfl⟩))
  go_ret
  exact ⟨rfl, rfl⟩
end Go.Proofs.Ytbnjbmajfadmaaa.Ar
