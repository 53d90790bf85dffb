/-
  Draws of the program and of the model: the seed as it is taken, the next one, the number below n and the seed that goes on. The program holds its seed in a block of its own, behind a closure.
-/
import Derived.Test.YtdcbcacgppffgaaSeed
import Derived.WalkKit
import Derived.Deep.QuietTactic
import Derived.BigQuiet
import Derived.Below
import Derived.OpenShut
namespace Go.Proofs.Ytdcbcacgppffgaa.Dr
set_option maxRecDepth 20000
open Go.RowKit

theorem ret_int {k : IntKind} {a b : Int} (h : a = b) : Ending.returned (.int k a) = .returned (.int k b) := by rw [h]
theorem ret_bool {a b : Bool} (h : a = b) : Ending.returned (.bool a) = .returned (.bool b) := by rw [h]

def btw (n lo hi : Int) : Bool := decide (lo ≤ n ∧ n ≤ hi)
set_option maxHeartbeats 400000 in
theorem between_any (n lo hi : Int) (w : World) :
    Calls Try.prog 25 #[.int .i64 n, .int .i64 lo, .int .i64 hi] w fun e w' => e = .returned (.bool (btw n lo hi)) ∧ w' = w := by
  go_enter Try.func25, Try.ntmps25
  go_wp2
  all_goals go_ret
  all_goals refine ⟨ret_bool ?_, rfl⟩
  all_goals unfold btw
  all_goals simp
  all_goals omega

set_option maxHeartbeats 400000 in
theorem stk_any (s : Int) (w : World) :
    Calls Try.prog 39 #[.int .i64 s] w fun e w' => e = .returned (.int .i64 (Se.tk s)) ∧ w' = w := by
  go_enter Try.func39, Try.ntmps39
  go_wp2_with (go_at_call 25; refine (between_any _ _ _ _).mono ?_; rintro e w' ⟨rfl, hw⟩; subst w')
  all_goals go_ret
  all_goals refine ⟨ret_int ?_, rfl⟩
  all_goals unfold Se.tk
  · rename_i h
    rw [if_pos (by simpa [btw] using h)]
  · rename_i h
    rw [if_neg (by simpa [btw] using h)]

set_option maxHeartbeats 400000 in
theorem snx_any (s : Int) (w : World) :
    Calls Try.prog 40 #[.int .i64 s] w fun e w' => e = .returned (.int .i64 (Se.nx (Se.tk s))) ∧ w' = w := by
  have h := Se.tk_seed s
  obtain ⟨t, ht⟩ : ∃ t, Se.tk s = t := ⟨_, rfl⟩
  rw [ht] at h
  obtain ⟨h0, h1⟩ := h
  go_enter Try.func40, Try.ntmps40
  go_wp2_with fail
  refine (stk_any _ _).mono ?_
  rintro e w' ⟨rfl, hw⟩
  subst w'
  rw [ht]
  have HT : Hid (Se.tk s = t) := ht
  clear ht
  go_wp2
  go_ret
  exact ⟨by rw [HT.out]; rfl, rfl⟩

set_option maxHeartbeats 1000000 in
theorem sbelow_no (s n : Int) (w : World) (hn : n < 1 ∨ 1000000 < n) :
    Calls Try.prog 38 #[.int .i64 s, .int .i64 n] w fun e w' => e = .returned (.tuple #[.int .i64 0, .int .i64 (Se.tk s)]) ∧ w' = w := by
  have hb : btw n 1 1000000 = false := by simp [btw]; omega
  go_enter Try.func38, Try.ntmps38
  go_wp2_with (first | (go_at_call 25; refine (between_any _ _ _ _).mono ?_; rintro e w' ⟨rfl, hw⟩; subst w') | (go_at_call 39; refine (stk_any _ _).mono ?_; rintro e w' ⟨rfl, hw⟩; subst w'))
  go_ret2
  exact ⟨rfl, rfl⟩

set_option maxHeartbeats 1000000 in
theorem sbelow_yes (s n : Int) (w : World) (h1 : 1 ≤ n) (h2 : n ≤ 1000000) :
    Calls Try.prog 38 #[.int .i64 s, .int .i64 n] w fun e w' => e = .returned (.tuple #[.int .i64 ((Se.sd (Se.top n) (Se.tk s) - 1) % n), .int .i64 (Se.sd (Se.top n) (Se.tk s))]) ∧ w' = w := by
  have hb : btw n 1 1000000 = true := by simp [btw]; omega
  have ht : 2146483647 ≤ 2147483646 / n * n ∧ 2147483646 / n * n ≤ 2147483646 := Se.top_bd h1 h2
  obtain ⟨t0, t1⟩ := ht
  have hs := Se.tk_seed s
  have HS : Hid (Se.Seed (Se.tk s)) := hs
  obtain ⟨hs0, hs1⟩ := hs
  go_enter Try.func38, Try.ntmps38
  go_wp2_with (first | (go_at_call 25; refine (between_any _ _ _ _).mono ?_; rintro e w' ⟨rfl, hw⟩; subst w') | (go_at_call 39; refine (stk_any _ _).mono ?_; rintro e w' ⟨rfl, hw⟩; subst w'))
  go_loop [0] (fun v => ∃ x : Int, v = .int .i64 x ∧ Se.Seed x ∧ Se.sd (2147483646 / n * n) x = Se.sd (2147483646 / n * n) (Se.tk s)) (fun v => Se.ms (intOf v))
  case atStart => exact ⟨_, rfl, HS.out, rfl⟩
  case round =>
    obtain ⟨x, rfl, hx, he⟩ := hrel
    have HE : Hid (Se.sd (2147483646 / n * n) x = Se.sd (2147483646 / n * n) (Se.tk s)) := he
    have hy := Se.nx_seed hx
    have HX : Hid (Se.Seed x ∧ Se.Seed (Se.nx x)) := ⟨hx, hy⟩
    have htx := Se.tk_id hx
    clear he hx
    obtain ⟨y0, y1⟩ := hy
    go_wp2_with fail
    refine (snx_any _ _).mono ?_
    rintro e w1 ⟨rfl, hw⟩
    subst w1
    rw [htx]
    by_cases hlt : Se.nx x - 1 < 2147483646 / n * n
    · go_wp2
      go_ret2
      refine ⟨?_, rfl⟩
      have := Se.sd_here hlt
      rw [HE.out] at this
      show _ = Ending.returned (.tuple #[.int .i64 ((Se.sd (2147483646 / n * n) (Se.tk s) - 1) % n), .int .i64 (Se.sd (2147483646 / n * n) (Se.tk s))])
      rw [this]
      rfl
    · go_wp2
      go_round
      case rel => exact ⟨_, rfl, HX.out.2, by rw [← HE.out]; exact (Se.sd_again HX.out.1 t0 (by omega)).symm⟩
      case measure => simp only [intOf]; exact Se.ms_less HX.out.1 (by omega)
theorem sbelow_tk (s n : Int) (w : World) (h1 : 1 ≤ n) (h2 : n ≤ 1000000) (hs : Se.Seed s) :
    Calls Try.prog 38 #[.int .i64 s, .int .i64 n] w fun e w' => e = .returned (.tuple #[.int .i64 ((Se.sd (Se.top n) s - 1) % n), .int .i64 (Se.sd (Se.top n) s)]) ∧ w' = w := by
  have := sbelow_yes s n w h1 h2
  rwa [Se.tk_id hs] at this

end Go.Proofs.Ytdcbcacgppffgaa.Dr
