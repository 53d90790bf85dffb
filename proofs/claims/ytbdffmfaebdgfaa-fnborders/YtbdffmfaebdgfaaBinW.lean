/-
  BordersOk, BinOf, BinsOf of the program and of the model: each answers what Bor says; old memory stays.
-/
import Derived.Test.YtbdffmfaebdgfaaBor
import Derived.Test.YtbdffmfaebdgfaaSiz
import Derived.Deep.AppendLies
import Derived.Deep.RegionLaw
import Derived.Deep.RegionWith
namespace Go.Proofs.Ytbdffmfaebdgfaa.Bw
open Go.RowKit
open Go.Proofs.Ytbdffmfaebdgfaa.Li Go.Proofs.Ytbdffmfaebdgfaa.Bo

set_option maxHeartbeats 400000 in
theorem iok_m (x : Int) (w : World) :
    Calls Try.prog 33 #[.int .i64 x] w fun e w' => e = .returned (.bool (fok x)) ∧ w' = w := by
  go_enter Try.func33, Try.ntmps33
  go_wp2
  all_goals go_ret
  all_goals refine ⟨ret_bool ?_, rfl⟩
  all_goals unfold fok
  all_goals simp
  all_goals omega
set_option maxHeartbeats 400000 in
theorem iok (x : Int) (w : World) :
    Calls Try.prog 29 #[.int .i64 x] w fun e w' => e = .returned (.bool (fok x)) ∧ w' = w := by
  go_enter Try.func29, Try.ntmps29
  go_wp2_with (go_at_call 33; refine (iok_m _ _).mono ?_; rintro e w' ⟨rfl, hw⟩; subst w')
  go_ret
  exact ⟨rfl, rfl⟩
set_option maxHeartbeats 400000 in
theorem sok (x : Int) (w : World) :
    Calls Try.prog 11 #[.int .i64 x] w fun e w' => e = .returned (.bool (fok x)) ∧ w' = w := by
  go_enter Try.func11, Try.ntmps11
  go_wp2_with (go_at_call 24; refine (between_any _ _ _ _).mono ?_; rintro e w' ⟨rfl, hw⟩; subst w')
  go_ret
  exact ⟨rfl, rfl⟩
theorem sokv (x : Int) (v : Bool) (h : fok x = v) (w : World) :
    Calls Try.prog 11 #[.int .i64 x] w fun e w' => e = .returned (.bool v) ∧ w' = w := by subst h; exact sok x w
set_option maxHeartbeats 1000000 in
theorem iall (w : World) (a : Option Addr) (cap : Nat) (xs : List Int) (hx : IsL w a xs) (hl : xs.length ≤ 1048576) :
    Calls Try.prog 20 #[.slice a xs.length cap] w fun e w' => e = .returned (.bool (aok xs)) ∧ w' = w := by
  go_enter Try.func20, Try.ntmps20
  go_wp2
  go_loop [7] (fun i => ∃ k : Nat, k ≤ xs.length ∧ i = .int .i64 k ∧ ∀ j (hj : j < xs.length), j < k → fok xs[j] = true) (fun i => xs.length - (intOf i).toNat)
  case atStart => exact ⟨0, Nat.zero_le _, rfl, fun j hj h => by omega⟩
  case round =>
    obtain ⟨k, hk, rfl, hn⟩ := hrel
    have HN : Hid (∀ j (hj : j < xs.length), j < k → fok xs[j] = true) := hn
    clear hn
    by_cases hlt : k < xs.length
    · rcases hx with rfl | ⟨b, off, rfl, hb, hc⟩
      · simp at hlt
      have hcx := hc k hlt
      clear hc
      cases hv : fok xs[k] with
      | false =>
        have HR : Hid (aok xs = false) := aok_no hlt hv
        go_wp2_with (go_at_call 29; refine (iok _ _).mono ?_; rintro e w' ⟨rfl, hw⟩; subst w'; rw [hv])
        go_ret
        exact ⟨ret_bool HR.out.symm, rfl⟩
      | true =>
        have HR : Hid (∀ j (hj : j < xs.length), j < k + 1 → fok xs[j] = true) := fun j hj h => by
          by_cases e : j = k
          · subst e; exact hv
          · exact HN.out j hj (by omega)
        go_wp2_with (go_at_call 29; refine (iok _ _).mono ?_; rintro e w' ⟨rfl, hw⟩; subst w'; rw [hv])
        go_round
        case rel => exact ⟨k + 1, by omega, by go_num, HR.out⟩
        case measure => simp [intOf]; omega
    · have HR : Hid (aok xs = true) := aok_to (fun j hj => HN.out j hj (by omega))
      go_wp2
      go_ret
      exact ⟨ret_bool HR.out.symm, rfl⟩
set_option maxHeartbeats 1000000 in
theorem ibok (w : World) (a : Option Addr) (cap : Nat) (xs : List Int) (hx : IsL w a xs) (hl : xs.length ≤ 1048576) :
    Calls Try.prog 10 #[.slice a xs.length cap] w fun e w' => e = .returned (.bool (bok xs)) ∧ ∃ n, w' = w.drewN n := by
  by_cases h12 : 12 < xs.length
  · have hd : decide (12 < (xs.length : Int)) = true := by simp; omega
    rw [bok_long h12]
    go_enter Try.func10, Try.ntmps10
    go_wp2
    go_ret
    exact ⟨rfl, 0, rfl⟩
  have hd : decide (12 < (xs.length : Int)) = false := by simp; omega
  cases ha : aok xs with
  | false =>
    rw [bok_nok ha]
    go_enter Try.func10, Try.ntmps10
    go_wp2_with (go_at_call 20; refine (iall _ _ _ xs hx hl).mono ?_; rintro e w' ⟨rfl, hw⟩; subst w'; rw [ha])
    go_ret
    exact ⟨rfl, 0, rfl⟩
  | true =>
  have HA : Hid (aok xs = true) := ha
  go_enter Try.func10, Try.ntmps10
  go_wp2_with (go_at_call 20; refine (iall _ _ _ xs hx hl).mono ?_; rintro e w' ⟨rfl, hw⟩; subst w'; rw [ha])
  clear ha
  go_loopw [3] (fun i wr => ∃ k : Nat, (k ≤ xs.length ∨ k = 1) ∧ 1 ≤ k ∧ i = .int .i64 k ∧ Adj xs k ∧ ∃ n, wr = w.drewN n) (fun i _ => xs.length - (intOf i).toNat)
  case atStart => exact ⟨1, .inr rfl, by omega, rfl, adj_one _, 0, rfl⟩
  case round =>
    obtain ⟨k, hk, hk1, rfl, hadj, n, rfl⟩ := hrel
    have HN : Hid (Adj xs k) := hadj
    clear hadj
    by_cases hlt : k < xs.length
    · rcases hx with rfl | ⟨b, off, rfl, hb, hc⟩
      · simp at hlt
      obtain ⟨q, rfl⟩ : ∃ q, k = q + 1 := ⟨k - 1, by omega⟩
      have hcx := hc (q + 1) hlt
      have hcy := hc q (by omega)
      clear hc
      by_cases hv : xs[q] < xs[q + 1]
      · have HR : Hid (Adj xs (q + 1 + 1)) := adj_succ HN.out hlt (fun _ => by simpa using hv)
        obtain ⟨y, ey⟩ : ∃ y, xs[q] = y := ⟨_, rfl⟩
        obtain ⟨x, ex⟩ : ∃ x, xs[q + 1] = x := ⟨_, rfl⟩
        rw [ex] at hcx hv
        rw [ey] at hcy hv
        clear ex ey
        go_wp2
        go_quiet (fail)
        go_wp2
        go_roundw
        case rel => exact ⟨q + 1 + 1, .inl (by omega), by omega, by go_num, HR.out, _, rfl⟩
        case measure => simp [intOf]; omega
      · have HR : Hid (bok xs = false) := bok_fall hlt hv
        obtain ⟨y, ey⟩ : ∃ y, xs[q] = y := ⟨_, rfl⟩
        obtain ⟨x, ex⟩ : ∃ x, xs[q + 1] = x := ⟨_, rfl⟩
        rw [ex] at hcx hv
        rw [ey] at hcy hv
        clear ex ey
        go_wp2
        go_quiet (fail)
        go_wp2
        go_ret
        exact ⟨ret_bool HR.out.symm, _, World.drewN_drewN _ _ _⟩
    · have HR : Hid (bok xs = true) := bok_all (by omega) HA.out (fun j hj _ => HN.out j hj (by omega))
      go_wp2
      go_ret
      exact ⟨ret_bool HR.out.symm, _, rfl⟩
end Go.Proofs.Ytbdffmfaebdgfaa.Bw
