/-
  Contracts of the fixed numbers' arithmetic (chapter 1), of the program and of its model, over one translation: each returns just what the Lean function named here computes, and leaves the world as it was.
-/
import Derived.Test.YtjiplokdamkccaaRows
import Derived.WalkKit
namespace Go.Proofs.Ytjiplokdamkccaa.Ar
open Go.RowKit

def clip (x : Int) : Int := if x < -1000000000 then -1000000000 else if 1000000000 < x then 1000000000 else x
def flo (a b : Int) : Int := if ¬ a.tmod b = 0 ∧ ¬ (decide (a < 0) = decide (b < 0)) then wrap64 (wrap64 (a.tdiv b) - 1) else wrap64 (a.tdiv b)

theorem clip_bd (x : Int) : -1000000000 ≤ clip x ∧ clip x ≤ 1000000000 := by unfold clip; split <;> (try split) <;> omega
theorem clip_id (x : Int) (h : -1000000000 ≤ x) (h' : x ≤ 1000000000) : clip x = x := by unfold clip; rw [if_neg (by omega), if_neg (by omega)]
theorem clip_lo (x : Int) (h : x ≤ -1000000000) : clip x = -1000000000 := by unfold clip; split <;> (try split) <;> omega
theorem clip_hi (x : Int) (h : 1000000000 ≤ x) : clip x = 1000000000 := by unfold clip; split <;> (try split) <;> omega

theorem ret_int {k : IntKind} {a b : Int} (h : a = b) : Ending.returned (.int k a) = .returned (.int k b) := by rw [h]

set_option maxHeartbeats 400000 in
theorem bounded_any (x : Int) (w : World) :
    Calls Try.prog 32 #[.int .i64 x] w fun e w' => e = .returned (.int .i64 (clip x)) ∧ w' = w := by
  go_enter Try.func32, Try.ntmps32
  go_wp2
  all_goals go_ret
  all_goals refine ⟨ret_int ?_, rfl⟩
  all_goals unfold clip; (repeat' split) <;> (try split at *) <;> omega

set_option maxHeartbeats 400000 in
theorem clip_any (x : Int) (w : World) :
    Calls Try.prog 23 #[.int .i64 x] w fun e w' => e = .returned (.int .i64 (clip x)) ∧ w' = w := by
  go_enter Try.func23, Try.ntmps23
  go_wp2
  all_goals go_ret
  all_goals refine ⟨ret_int ?_, rfl⟩
  all_goals unfold clip; (repeat' split) <;> (try split at *) <;> omega

theorem flo_one {a b : Int} (h : a.tmod b = 0) : flo a b = wrap64 (a.tdiv b) := by unfold flo; rw [if_neg (fun hh => hh.1 h)]
theorem flo_two {a b : Int} (h : ¬ a.tmod b = 0) (h' : (a.tmod b != 0) = true ∧ (!decide (a < 0) == decide (b < 0)) = true) : flo a b = wrap64 (wrap64 (a.tdiv b) - 1) := by
  unfold flo; rw [if_pos ⟨h, fun e => by rw [e] at h'; simp at h'⟩]
theorem flo_three {a b : Int} (h : ¬ a.tmod b = 0) (h' : (a.tmod b != 0) = false ∨ (!decide (a < 0) == decide (b < 0)) = false) : flo a b = wrap64 (a.tdiv b) := by
  unfold flo
  rw [if_neg]
  rintro ⟨_, e⟩
  rcases h' with h' | h'
  · simp at h'; exact h h'
  · simp at h'; exact e (by simpa using h')

set_option maxHeartbeats 400000 in
theorem floorBy_any (a b : Int) (w : World) (hb : ¬ b = 0) :
    Calls Try.prog 33 #[.int .i64 a, .int .i64 b] w fun e w' => e = .returned (.int .i64 (flo a b)) ∧ w' = w := by
  go_enter Try.func33, Try.ntmps33
  go_wp2
  all_goals go_ret
  all_goals refine ⟨ret_int ?_, rfl⟩
  · exact (flo_one ‹_›).symm
  · exact (flo_two ‹_› ‹_›).symm
  · exact (flo_three ‹_› ‹_›).symm

set_option maxHeartbeats 400000 in
theorem floor_any (a b : Int) (w : World) (hb : ¬ b = 0) :
    Calls Try.prog 24 #[.int .i64 a, .int .i64 b] w fun e w' => e = .returned (.int .i64 (flo a b)) ∧ w' = w := by
  go_enter Try.func24, Try.ntmps24
  go_wp2
  all_goals go_ret
  all_goals refine ⟨ret_int ?_, rfl⟩
  · exact (flo_one ‹_›).symm
  · exact (flo_two ‹_› ‹_›).symm
  · exact (flo_three ‹_› ‹_›).symm

def fadd (a b : Int) : Int := clip (clip a + clip b)
def fmul (a b : Int) : Int := clip (flo (clip a * clip b) 1000)
def fdiv (a b : Int) : Int := clip (flo (clip a * 1000) (clip b))
def fok (x : Int) : Bool := decide (-1000000000 ≤ x ∧ x ≤ 1000000000)

theorem clip_nz {b : Int} (h : ¬ b = 0) : ¬ clip b = 0 := by unfold clip; split <;> (try split) <;> omega
theorem mul_bd {a b : Int} (ha : -1000000000 ≤ a ∧ a ≤ 1000000000) (hb : -1000000000 ≤ b ∧ b ≤ 1000000000) : -1000000000000000000 ≤ a * b ∧ a * b ≤ 1000000000000000000 := by
  have h1 : (a * b).natAbs ≤ 1000000000 * 1000000000 := by rw [Int.natAbs_mul]; exact Nat.mul_le_mul (by omega) (by omega)
  omega

set_option maxHeartbeats 400000 in
theorem plus_any (a b : Int) (w : World) :
    Calls Try.prog 21 #[.int .i64 a, .int .i64 b] w fun e w' => e = .returned (.int .i64 (fadd a b)) ∧ w' = w := by
  have ha := clip_bd a
  have hb := clip_bd b
  go_enter Try.func21, Try.ntmps21
  go_wp2_with (go_at_call 32; refine (bounded_any _ _).mono ?_; rintro e w' ⟨rfl, rfl⟩)
  go_ret
  exact ⟨rfl, rfl⟩

set_option maxHeartbeats 400000 in
theorem sadd_any (a b : Int) (w : World) :
    Calls Try.prog 13 #[.int .i64 a, .int .i64 b] w fun e w' => e = .returned (.int .i64 (fadd a b)) ∧ w' = w := by
  have ha := clip_bd a
  have hb := clip_bd b
  go_enter Try.func13, Try.ntmps13
  go_wp2_with (go_at_call 23; refine (clip_any _ _).mono ?_; rintro e w' ⟨rfl, rfl⟩)
  go_ret
  exact ⟨rfl, rfl⟩

set_option maxHeartbeats 400000 in
theorem iadd_any (a b : Int) (w : World) :
    Calls Try.prog 11 #[.int .i64 a, .int .i64 b] w fun e w' => e = .returned (.int .i64 (fadd a b)) ∧ w' = w := by
  go_enter Try.func11, Try.ntmps11
  go_wp2_with (go_at_call 21; refine (plus_any _ _ _).mono ?_; rintro e w' ⟨rfl, rfl⟩)
  go_ret
  exact ⟨rfl, rfl⟩

set_option maxHeartbeats 400000 in
theorem times_any (a b : Int) (w : World) :
    Calls Try.prog 22 #[.int .i64 a, .int .i64 b] w fun e w' => e = .returned (.int .i64 (fmul a b)) ∧ w' = w := by
  have ha := clip_bd a
  have hb := clip_bd b
  have hm := mul_bd ha hb
  go_enter Try.func22, Try.ntmps22
  go_wp2_with (first | (go_at_call 32; refine (bounded_any _ _).mono ?_; rintro e w' ⟨rfl, rfl⟩) | (go_at_call 33; refine (floorBy_any _ _ _ (by omega)).mono ?_; rintro e w' ⟨rfl, rfl⟩))
  go_ret
  exact ⟨rfl, rfl⟩

set_option maxHeartbeats 400000 in
theorem imul_any (a b : Int) (w : World) :
    Calls Try.prog 12 #[.int .i64 a, .int .i64 b] w fun e w' => e = .returned (.int .i64 (fmul a b)) ∧ w' = w := by
  go_enter Try.func12, Try.ntmps12
  go_wp2_with (go_at_call 22; refine (times_any _ _ _).mono ?_; rintro e w' ⟨rfl, rfl⟩)
  go_ret
  exact ⟨rfl, rfl⟩

set_option maxHeartbeats 400000 in
theorem smul_any (a b : Int) (w : World) :
    Calls Try.prog 14 #[.int .i64 a, .int .i64 b] w fun e w' => e = .returned (.int .i64 (fmul a b)) ∧ w' = w := by
  have ha := clip_bd a
  have hb := clip_bd b
  have hm := mul_bd ha hb
  go_enter Try.func14, Try.ntmps14
  go_wp2_with (first | (go_at_call 23; refine (clip_any _ _).mono ?_; rintro e w' ⟨rfl, rfl⟩) | (go_at_call 24; refine (floor_any _ _ _ (by omega)).mono ?_; rintro e w' ⟨rfl, rfl⟩))
  go_ret
  exact ⟨rfl, rfl⟩

set_option maxHeartbeats 400000 in
theorem by_no (a : Int) (w : World) :
    Calls Try.prog 27 #[.int .i64 a, .int .i64 0] w fun e w' => e = .returned (.tuple #[.int .i64 0, .bool false]) ∧ w' = w := by
  go_enter Try.func27, Try.ntmps27
  go_wp2
  go_ret2
  exact ⟨rfl, rfl⟩
set_option maxHeartbeats 400000 in
theorem by_yes (a b : Int) (w : World) (hb : ¬ b = 0) :
    Calls Try.prog 27 #[.int .i64 a, .int .i64 b] w fun e w' => e = .returned (.tuple #[.int .i64 (fdiv a b), .bool true]) ∧ w' = w := by
  have ha := clip_bd a
  have hc := clip_nz hb
  go_enter Try.func27, Try.ntmps27
  go_wp2_with (first | (go_at_call 32; refine (bounded_any _ _).mono ?_; rintro e w' ⟨rfl, rfl⟩) | (go_at_call 33; refine (floorBy_any _ _ _ hc).mono ?_; rintro e w' ⟨rfl, rfl⟩))
  go_ret2
  exact ⟨rfl, rfl⟩
set_option maxHeartbeats 400000 in
theorem idiv_no (a : Int) (w : World) :
    Calls Try.prog 17 #[.int .i64 a, .int .i64 0] w fun e w' => e = .returned (.tuple #[.int .i64 0, .bool false]) ∧ w' = w := by
  go_enter Try.func17, Try.ntmps17
  go_wp2_with (go_at_call 27; refine (by_no _ _).mono ?_; rintro e w' ⟨rfl, rfl⟩)
  go_ret2
  exact ⟨rfl, rfl⟩
set_option maxHeartbeats 400000 in
theorem idiv_yes (a b : Int) (w : World) (hb : ¬ b = 0) :
    Calls Try.prog 17 #[.int .i64 a, .int .i64 b] w fun e w' => e = .returned (.tuple #[.int .i64 (fdiv a b), .bool true]) ∧ w' = w := by
  go_enter Try.func17, Try.ntmps17
  go_wp2_with (go_at_call 27; refine (by_yes _ _ _ hb).mono ?_; rintro e w' ⟨rfl, rfl⟩)
  go_ret2
  exact ⟨rfl, rfl⟩
set_option maxHeartbeats 400000 in
theorem sdiv_no (a : Int) (w : World) :
    Calls Try.prog 18 #[.int .i64 a, .int .i64 0] w fun e w' => e = .returned (.tuple #[.int .i64 0, .bool false]) ∧ w' = w := by
  go_enter Try.func18, Try.ntmps18
  go_wp2
  go_ret2
  exact ⟨rfl, rfl⟩
set_option maxHeartbeats 400000 in
theorem sdiv_yes (a b : Int) (w : World) (hb : ¬ b = 0) :
    Calls Try.prog 18 #[.int .i64 a, .int .i64 b] w fun e w' => e = .returned (.tuple #[.int .i64 (fdiv a b), .bool true]) ∧ w' = w := by
  have ha := clip_bd a
  have hc := clip_nz hb
  go_enter Try.func18, Try.ntmps18
  go_wp2_with (first | (go_at_call 23; refine (clip_any _ _).mono ?_; rintro e w' ⟨rfl, rfl⟩) | (go_at_call 24; refine (floor_any _ _ _ hc).mono ?_; rintro e w' ⟨rfl, rfl⟩))
  go_ret2
  exact ⟨rfl, rfl⟩

theorem ret_bool {a b : Bool} (h : a = b) : Ending.returned (.bool a) = .returned (.bool b) := by rw [h]

set_option maxHeartbeats 400000 in
theorem ok_any (x : Int) (w : World) :
    Calls Try.prog 25 #[.int .i64 x] w fun e w' => e = .returned (.bool (fok x)) ∧ w' = w := by
  by_cases h1 : -1000000000 ≤ x <;> by_cases h2 : x ≤ 1000000000
  all_goals
    go_enter Try.func25, Try.ntmps25
    go_wp2
    go_ret
    refine ⟨ret_bool ?_, rfl⟩
    simp [fok, h1, h2]
set_option maxHeartbeats 400000 in
theorem iok_any (x : Int) (w : World) :
    Calls Try.prog 15 #[.int .i64 x] w fun e w' => e = .returned (.bool (fok x)) ∧ w' = w := by
  go_enter Try.func15, Try.ntmps15
  go_wp2_with (go_at_call 25; refine (ok_any _ _).mono ?_; rintro e w' ⟨rfl, rfl⟩)
  go_ret
  exact ⟨rfl, rfl⟩
def btw (n lo hi : Int) : Bool := decide (lo ≤ n ∧ n ≤ hi)
set_option maxHeartbeats 400000 in
theorem between_any (n lo hi : Int) (w : World) :
    Calls Try.prog 26 #[.int .i64 n, .int .i64 lo, .int .i64 hi] w fun e w' => e = .returned (.bool (btw n lo hi)) ∧ w' = w := by
  by_cases h1 : lo ≤ n <;> by_cases h2 : n ≤ hi
  all_goals
    go_enter Try.func26, Try.ntmps26
    go_wp2
    go_ret
    refine ⟨ret_bool ?_, rfl⟩
    simp [btw, h1, h2]
set_option maxHeartbeats 400000 in
theorem sok_any (x : Int) (w : World) :
    Calls Try.prog 16 #[.int .i64 x] w fun e w' => e = .returned (.bool (fok x)) ∧ w' = w := by
  go_enter Try.func16, Try.ntmps16
  go_wp2_with (go_at_call 26; refine (between_any _ _ _ _).mono ?_; rintro e w' ⟨rfl, rfl⟩)
  go_ret
  exact ⟨rfl, rfl⟩

/-! ### What follows of the numbers -/
theorem wrap_id (x : Int) (h0 : -9223372036854775808 ≤ x) (h1 : x ≤ 9223372036854775807) : wrap64 x = x := by unfold wrap64; omega
theorem flo_1000 (a : Int) (h0 : -1000000000000000000 ≤ a) (h1 : a ≤ 1000000000000000000) : flo a 1000 = a / 1000 := by
  unfold flo
  by_cases h : 0 ≤ a
  · rw [Int.tdiv_eq_ediv_of_nonneg h, if_neg (by simp; omega), wrap_id _ (by omega) (by omega)]
  · have e1 : a.tdiv 1000 = -((-a) / 1000) := by rw [← Int.tdiv_eq_ediv_of_nonneg (by omega), Int.neg_tdiv]; simp
    have e2 : a.tmod 1000 = -((-a) % 1000) := by rw [← Int.tmod_eq_emod_of_nonneg (by omega), Int.neg_tmod]; simp
    rw [e1, e2]
    by_cases h2 : (-a) % 1000 = 0
    · rw [if_neg (by omega), wrap_id _ (by omega) (by omega)]; omega
    · rw [if_pos ⟨by omega, by simp; omega⟩, wrap_id (-(-a / 1000)) (by omega) (by omega), wrap_id _ (by omega) (by omega)]; omega
theorem fadd_comm (a b : Int) : fadd a b = fadd b a := by unfold fadd; rw [Int.add_comm]
theorem fmul_comm (a b : Int) : fmul a b = fmul b a := by unfold fmul; rw [Int.mul_comm]
theorem fok_clip (x : Int) : fok (clip x) = true := by unfold fok; have := clip_bd x; simp; omega
theorem fok_fadd (a b : Int) : fok (fadd a b) = true := fok_clip _
theorem fok_fmul (a b : Int) : fok (fmul a b) = true := fok_clip _
theorem fok_iff {a : Int} (h : fok a = true) : -1000000000 ≤ a ∧ a ≤ 1000000000 := by unfold fok at h; simpa using h
theorem fmul_1000 {a : Int} (h : fok a = true) : fmul a 1000 = a := by
  have hb := fok_iff h
  unfold fmul
  rw [clip_id a hb.1 hb.2, clip_id 1000 (by omega) (by omega), flo_1000 _ (by omega) (by omega), clip_id _ (by omega) (by omega)]
  omega
theorem fdiv_1000 {a : Int} (h : fok a = true) : fdiv a 1000 = a := by
  have hb := fok_iff h
  unfold fdiv
  rw [clip_id a hb.1 hb.2, clip_id 1000 (by omega) (by omega), flo_1000 _ (by omega) (by omega), clip_id _ (by omega) (by omega)]
  omega
theorem fadd_zero {a : Int} (h : fok a = true) : fadd a 0 = a := by
  have hb := fok_iff h
  unfold fadd
  rw [clip_id a hb.1 hb.2, clip_id 0 (by omega) (by omega), clip_id _ (by omega) (by omega)]
  omega
theorem clip_le {a b : Int} (h : a ≤ b) : clip a ≤ clip b := by unfold clip; (repeat' split) <;> omega
theorem fadd_le {a b : Int} (x : Int) (h : a ≤ b) : fadd a x ≤ fadd b x := by
  have := clip_le h
  exact clip_le (by omega)
theorem fmul_le {a b : Int} (x : Int) (h : a ≤ b) (hx : 0 ≤ x) : fmul a x ≤ fmul b x := by
  have h1 := clip_le h
  have h2 : clip a * clip x ≤ clip b * clip x := Int.mul_le_mul_of_nonneg_right h1 (by unfold clip; (repeat' split) <;> omega)
  have ba := mul_bd (clip_bd a) (clip_bd x)
  have bb := mul_bd (clip_bd b) (clip_bd x)
  unfold fmul
  rw [flo_1000 _ ba.1 ba.2, flo_1000 _ bb.1 bb.2]
  exact clip_le (by omega)

end Go.Proofs.Ytjiplokdamkccaa.Ar
