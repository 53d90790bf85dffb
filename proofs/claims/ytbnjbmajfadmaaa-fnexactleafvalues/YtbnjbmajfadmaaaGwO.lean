/-
  GrowOk of the program and of the model; the laws' own copy of a Grow.
-/
import Derived.Test.YtbnjbmajfadmaaaTrM
namespace Go.Proofs.Ytbnjbmajfadmaaa.Gw
open Go.RowKit
open Go.Proofs.Ytbnjbmajfadmaaa.Li (ret_bool ret_int below_none IsL btw)
set_option linter.unusedVariables false

def gok (d r : Int) : Bool := btw d 0 4 && btw r 1 1000
set_option maxHeartbeats 1000000 in
theorem toGrow (w : World) (x y : Int) :
    Calls Try.prog 31 #[.agg #[.int .i64 x, .int .i64 y]] w fun e w' => e = .returned (.agg #[.int .i64 x, .int .i64 y]) ∧ Below w.heap.size w w' := by
  go_enter Try.func31, Try.ntmps31
  go_wp2
  refine bodyPost_ret (v := .agg #[.int .i64 x, .int .i64 y]) (by rw [Tm.results_cell rfl]; go_simp) rfl ⟨rfl, ?_⟩
  exact (((Below.refl _ _).alloc (Nat.le_refl _) _).alloc (by simp) _).alloc (by simp; omega) _
set_option maxHeartbeats 400000 in
theorem irate (x : Int) (w : World) : Calls Try.prog 75 #[.int .i64 x] w fun e w' => e = .returned (.bool (btw x 1 1000)) ∧ w' = w := by
  go_enter Try.func75, Try.ntmps75
  go_wp2
  all_goals go_ret
  all_goals refine ⟨ret_bool ?_, rfl⟩
  all_goals unfold btw
  all_goals simp
  all_goals first | omega | (rw [Bool.eq_iff_iff]; simp; omega)
set_option maxHeartbeats 400000 in
theorem sgok (w : World) (d r : Int) : Calls Try.prog 30 #[.agg #[.int .i64 d, .int .i64 r]] w fun e w' => e = .returned (.bool (gok d r)) ∧ Below w.heap.size w w' := by
  have HR : Hid (gok d r = (btw d 0 4 && btw r 1 1000)) := rfl
  cases hv : btw d 0 4 with
  | false =>
    go_enter Try.func30, Try.ntmps30
    go_wp2_with (go_at_call 51; refine (Li.between_any _ _ _ _).mono ?_; rintro e w' ⟨rfl, hw⟩; subst w'; rw [hv])
    go_ret
    exact ⟨ret_bool (by rw [HR.out, hv]; rfl), (Below.refl _ _).alloc (Nat.le_refl _) _⟩
  | true =>
    go_enter Try.func30, Try.ntmps30
    go_wp2_with (go_at_call 51; refine (Li.between_any _ _ _ _).mono ?_; rintro e w' ⟨rfl, hw⟩; subst w'; (try rw [hv]))
    go_ret
    exact ⟨ret_bool (by rw [HR.out, hv]; rfl), (Below.refl _ _).alloc (Nat.le_refl _) _⟩
set_option maxHeartbeats 400000 in
theorem igok (w : World) (d r : Int) : Calls Try.prog 32 #[.agg #[.int .i64 d, .int .i64 r]] w fun e w' => e = .returned (.bool (gok d r)) ∧ Below w.heap.size w w' := by
  have HR : Hid (gok d r = (btw d 0 4 && btw r 1 1000)) := rfl
  by_cases h0 : 0 ≤ d
  rotate_left
  · have hv : btw d 0 4 = false := by simp [btw]; omega
    have hd : decide (0 ≤ d) = false := by simp; omega
    go_enter Try.func32, Try.ntmps32
    go_wp2_with (go_at_call 75; refine (irate _ _).mono ?_; rintro e w' ⟨rfl, hw⟩; subst w')
    go_ret
    exact ⟨ret_bool (by rw [HR.out, hv]; rfl), (Below.refl _ _).alloc (Nat.le_refl _) _⟩
  have hd : decide (0 ≤ d) = true := by simp; omega
  by_cases h1 : d ≤ 4
  rotate_left
  · have hv : btw d 0 4 = false := by simp [btw]; omega
    have hd1 : decide (d ≤ 4) = false := by simp; omega
    go_enter Try.func32, Try.ntmps32
    go_wp2_with (go_at_call 75; refine (irate _ _).mono ?_; rintro e w' ⟨rfl, hw⟩; subst w')
    go_ret
    exact ⟨ret_bool (by rw [HR.out, hv]; rfl), (Below.refl _ _).alloc (Nat.le_refl _) _⟩
  have hd1 : decide (d ≤ 4) = true := by simp; omega
  have hv : btw d 0 4 = true := by simp [btw]; omega
  go_enter Try.func32, Try.ntmps32
  go_wp2_with (go_at_call 75; refine (irate _ _).mono ?_; rintro e w' ⟨rfl, hw⟩; subst w')
  go_ret
  exact ⟨ret_bool (by rw [HR.out, hv]; rfl), (Below.refl _ _).alloc (Nat.le_refl _) _⟩
end Go.Proofs.Ytbnjbmajfadmaaa.Gw
