/-
  BordersOk, BinOf, BinsOf of the program and of the model: each answers what Bor says; old memory stays.
-/
import Derived.Test.YtjkmajfnpcdklaaBor
import Derived.Test.YtjkmajfnpcdklaaSiz
import Derived.Deep.AppendLies
import Derived.Deep.RegionLaw
import Derived.Deep.RegionWith
namespace Go.Proofs.Ytjkmajfnpcdklaa.Bw
open Go.RowKit
open Go.Proofs.Ytjkmajfnpcdklaa.Li Go.Proofs.Ytjkmajfnpcdklaa.Bo

set_option maxHeartbeats 400000 in
theorem iok_m (x : Int) (w : World) :
    Calls Try.prog 33 #[.int .i64 x] w fun e w' => e = .returned (.bool (fok x)) ∧ w' = w := by
  go_enter Try.func33, Try.ntmps33
  go_wp2
  all_goals go_ret
  all_goals refine ⟨ret_bool ?_, rfl⟩
  all_goals unfold fok
  all_goals simp
  all_goals omega
set_option maxHeartbeats 400000 in
theorem iok (x : Int) (w : World) :
    Calls Try.prog 32 #[.int .i64 x] w fun e w' => e = .returned (.bool (fok x)) ∧ w' = w := by
  go_enter Try.func32, Try.ntmps32
  go_wp2_with (go_at_call 33; refine (iok_m _ _).mono ?_; rintro e w' ⟨rfl, hw⟩; subst w')
  go_ret
  exact ⟨rfl, rfl⟩
set_option maxHeartbeats 400000 in
theorem sok (x : Int) (w : World) :
    Calls Try.prog 25 #[.int .i64 x] w fun e w' => e = .returned (.bool (fok x)) ∧ w' = w := by
  go_enter Try.func25, Try.ntmps25
  go_wp2_with (go_at_call 26; refine (between_any _ _ _ _).mono ?_; rintro e w' ⟨rfl, hw⟩; subst w')
  go_ret
  exact ⟨rfl, rfl⟩
theorem sokv (x : Int) (v : Bool) (h : fok x = v) (w : World) :
    Calls Try.prog 25 #[.int .i64 x] w fun e w' => e = .returned (.bool v) ∧ w' = w := by subst h; exact sok x w
set_option maxHeartbeats 1000000 in
theorem iall (w : World) (a : Option Addr) (cap : Nat) (xs : List Int) (hx : IsL w a xs) (hl : xs.length ≤ 1048576) :
    Calls Try.prog 24 #[.slice a xs.length cap] w fun e w' => e = .returned (.bool (aok xs)) ∧ w' = w := by
  go_enter Try.func24, Try.ntmps24
  go_wp2
  go_loop [7] (fun i => ∃ k : Nat, k ≤ xs.length ∧ i = .int .i64 k ∧ ∀ j (hj : j < xs.length), j < k → fok xs[j] = true) (fun i => xs.length - (intOf i).toNat)
  case atStart => exact ⟨0, Nat.zero_le _, rfl, fun j hj h => by omega⟩
  case round =>
    obtain ⟨k, hk, rfl, hn⟩ := hrel
    have HN : Hid (∀ j (hj : j < xs.length), j < k → fok xs[j] = true) := hn
    clear hn
    by_cases hlt : k < xs.length
    · rcases hx with rfl | ⟨b, off, rfl, hb, hc⟩
      · simp at hlt
      have hcx := hc k hlt
      clear hc
      cases hv : fok xs[k] with
      | false =>
        have HR : Hid (aok xs = false) := aok_no hlt hv
        go_wp2_with (go_at_call 32; refine (iok _ _).mono ?_; rintro e w' ⟨rfl, hw⟩; subst w'; rw [hv])
        go_ret
        exact ⟨ret_bool HR.out.symm, rfl⟩
      | true =>
        have HR : Hid (∀ j (hj : j < xs.length), j < k + 1 → fok xs[j] = true) := fun j hj h => by
          by_cases e : j = k
          · subst e; exact hv
          · exact HN.out j hj (by omega)
        go_wp2_with (go_at_call 32; refine (iok _ _).mono ?_; rintro e w' ⟨rfl, hw⟩; subst w'; rw [hv])
        go_round
        case rel => exact ⟨k + 1, by omega, by go_num, HR.out⟩
        case measure => simp [intOf]; omega
    · have HR : Hid (aok xs = true) := aok_to (fun j hj => HN.out j hj (by omega))
      go_wp2
      go_ret
      exact ⟨ret_bool HR.out.symm, rfl⟩
set_option maxHeartbeats 1000000 in
theorem ibok (w : World) (a : Option Addr) (cap : Nat) (xs : List Int) (hx : IsL w a xs) (hl : xs.length ≤ 1048576) :
    Calls Try.prog 9 #[.slice a xs.length cap] w fun e w' => e = .returned (.bool (bok xs)) ∧ ∃ n, w' = w.drewN n := by
  by_cases h12 : 12 < xs.length
  · have hd : decide (12 < (xs.length : Int)) = true := by simp; omega
    rw [bok_long h12]
    go_enter Try.func9, Try.ntmps9
    go_wp2
    go_ret
    exact ⟨rfl, 0, rfl⟩
  have hd : decide (12 < (xs.length : Int)) = false := by simp; omega
  cases ha : aok xs with
  | false =>
    rw [bok_nok ha]
    go_enter Try.func9, Try.ntmps9
    go_wp2_with (go_at_call 24; refine (iall _ _ _ xs hx hl).mono ?_; rintro e w' ⟨rfl, hw⟩; subst w'; rw [ha])
    go_ret
    exact ⟨rfl, 0, rfl⟩
  | true =>
  have HA : Hid (aok xs = true) := ha
  go_enter Try.func9, Try.ntmps9
  go_wp2_with (go_at_call 24; refine (iall _ _ _ xs hx hl).mono ?_; rintro e w' ⟨rfl, hw⟩; subst w'; rw [ha])
  clear ha
  go_loopw [3] (fun i wr => ∃ k : Nat, (k ≤ xs.length ∨ k = 1) ∧ 1 ≤ k ∧ i = .int .i64 k ∧ Adj xs k ∧ ∃ n, wr = w.drewN n) (fun i _ => xs.length - (intOf i).toNat)
  case atStart => exact ⟨1, .inr rfl, by omega, rfl, adj_one _, 0, rfl⟩
  case round =>
    obtain ⟨k, hk, hk1, rfl, hadj, n, rfl⟩ := hrel
    have HN : Hid (Adj xs k) := hadj
    clear hadj
    by_cases hlt : k < xs.length
    · rcases hx with rfl | ⟨b, off, rfl, hb, hc⟩
      · simp at hlt
      obtain ⟨q, rfl⟩ : ∃ q, k = q + 1 := ⟨k - 1, by omega⟩
      have hcx := hc (q + 1) hlt
      have hcy := hc q (by omega)
      clear hc
      by_cases hv : xs[q] < xs[q + 1]
      · have HR : Hid (Adj xs (q + 1 + 1)) := adj_succ HN.out hlt (fun _ => by simpa using hv)
        obtain ⟨y, ey⟩ : ∃ y, xs[q] = y := ⟨_, rfl⟩
        obtain ⟨x, ex⟩ : ∃ x, xs[q + 1] = x := ⟨_, rfl⟩
        rw [ex] at hcx hv
        rw [ey] at hcy hv
        clear ex ey
        go_wp2
        go_quiet (fail)
        go_wp2
        go_roundw
        case rel => exact ⟨q + 1 + 1, .inl (by omega), by omega, by go_num, HR.out, _, rfl⟩
        case measure => simp [intOf]; omega
      · have HR : Hid (bok xs = false) := bok_fall hlt hv
        obtain ⟨y, ey⟩ : ∃ y, xs[q] = y := ⟨_, rfl⟩
        obtain ⟨x, ex⟩ : ∃ x, xs[q + 1] = x := ⟨_, rfl⟩
        rw [ex] at hcx hv
        rw [ey] at hcy hv
        clear ex ey
        go_wp2
        go_quiet (fail)
        go_wp2
        go_ret
        exact ⟨ret_bool HR.out.symm, _, World.drewN_drewN _ _ _⟩
    · have HR : Hid (bok xs = true) := bok_all (by omega) HA.out (fun j hj _ => HN.out j hj (by omega))
      go_wp2
      go_ret
      exact ⟨ret_bool HR.out.symm, _, rfl⟩
set_option maxHeartbeats 1000000 in
theorem sbok (w : World) (a : Option Addr) (cap : Nat) (xs : List Int) (hx : IsL w a xs) (hl : xs.length ≤ 1048576) :
    Calls Try.prog 10 #[.slice a xs.length cap] w fun e w' => e = .returned (.bool (bok xs)) ∧ ∃ n, w' = w.drewN n := by
  by_cases h12 : 12 < xs.length
  · have hd : decide (12 < (xs.length : Int)) = true := by simp; omega
    rw [bok_long h12]
    go_enter Try.func10, Try.ntmps10
    go_wp2
    go_ret
    exact ⟨rfl, 0, rfl⟩
  have hd : decide (12 < (xs.length : Int)) = false := by simp; omega
  go_enter Try.func10, Try.ntmps10
  go_wp2
  go_loopw [3] (fun i wr => ∃ k : Nat, k ≤ xs.length ∧ i = .int .i64 k ∧ Adj xs k ∧ (∀ j (hj : j < xs.length), j < k → fok xs[j] = true) ∧ ∃ n, wr = w.drewN n) (fun i _ => xs.length - (intOf i).toNat)
  case atStart => exact ⟨0, Nat.zero_le _, rfl, adj_zero _, fun j hj h => by omega, 0, rfl⟩
  case round =>
    obtain ⟨k, hk, rfl, hadj, hn, n, hw⟩ := hrel
    have HW : Hid (wr = w.drewN n) := hw
    have hx := hx.drewN n
    rw [← hw] at hx
    clear hw
    have HA : Hid (Adj xs k) := hadj
    have HN : Hid (∀ j (hj : j < xs.length), j < k → fok xs[j] = true) := hn
    clear hadj hn
    by_cases hlt : k < xs.length
    · rcases hx with rfl | ⟨b, off, rfl, hb, hc⟩
      · simp at hlt
      have hcx := hc k hlt
      have HC : Hid (∀ j (hj : j < xs.length), wr.cell? ⟨b, off + j, none⟩ = some (.int .i64 xs[j])) := hc
      clear hc
      cases hv : fok xs[k] with
      | false =>
        have HR : Hid (bok xs = false) := bok_bad hlt hv
        obtain ⟨x, ex⟩ : ∃ x, xs[k] = x := ⟨_, rfl⟩
        rw [ex] at hcx hv
        clear ex
        go_wp2
        go_quiet (first | (go_at_call 25; refine Calls.quiet_of_same (sokv _ false hv _)))
        go_wp2
        go_ret
        exact ⟨ret_bool HR.out.symm, _, by rw [HW.out, World.drewN_drewN]⟩
      | true =>
        have HF : Hid (∀ j (hj : j < xs.length), j < k + 1 → fok xs[j] = true) := fun j hj h => by
          by_cases e : j = k
          · subst e; exact hv
          · exact HN.out j hj (by omega)
        by_cases hk0 : k = 0
        · have HR : Hid (Adj xs (k + 1)) := by subst hk0; exact adj_one _
          have hg0 : decide (0 < k) = false := by simp; omega
          clear hk0
          obtain ⟨x, ex⟩ : ∃ x, xs[k] = x := ⟨_, rfl⟩
          rw [ex] at hcx hv
          clear ex
          go_wp2
          go_quiet (first | (go_at_call 25; refine Calls.quiet_of_same (sokv _ true hv _)))
          go_wp2
          go_roundw
          case rel => exact ⟨k + 1, by omega, by go_num, HR.out, HF.out, _, by rw [HW.out, World.drewN_drewN]⟩
          case measure => simp [intOf]; omega
        · obtain ⟨q, rfl⟩ : ∃ q, k = q + 1 := ⟨k - 1, by omega⟩
          clear hk0
          have hcy := HC.out q (by omega)
          have hg0 : (0 : Int) < ((q + 1 : Nat) : Int) := by omega
          by_cases hr : xs[q] < xs[q + 1]
          · have HR : Hid (Adj xs (q + 1 + 1)) := adj_succ HA.out hlt (fun _ => by simpa using hr)
            obtain ⟨y, ey⟩ : ∃ y, xs[q] = y := ⟨_, rfl⟩
            obtain ⟨x, ex⟩ : ∃ x, xs[q + 1] = x := ⟨_, rfl⟩
            rw [ex] at hcx hv hr
            rw [ey] at hcy hr
            clear ex ey
            go_wp2
            go_quiet (first | (go_at_call 25; refine Calls.quiet_of_same (sokv _ true hv _)))
            go_wp2
            go_roundw
            case rel => exact ⟨q + 1 + 1, by omega, by go_num, HR.out, HF.out, _, by rw [HW.out, World.drewN_drewN]⟩
            case measure => simp [intOf]; omega
          · have HR : Hid (bok xs = false) := bok_fall hlt hr
            obtain ⟨y, ey⟩ : ∃ y, xs[q] = y := ⟨_, rfl⟩
            obtain ⟨x, ex⟩ : ∃ x, xs[q + 1] = x := ⟨_, rfl⟩
            rw [ex] at hcx hv hr
            rw [ey] at hcy hr
            clear ex ey
            go_wp2
            go_quiet (first | (go_at_call 25; refine Calls.quiet_of_same (sokv _ true hv _)))
            go_wp2
            go_ret
            exact ⟨ret_bool HR.out.symm, _, by rw [HW.out, World.drewN_drewN]⟩
    · have HR : Hid (bok xs = true) := bok_all (by omega) (aok_to (fun j hj => HN.out j hj (by omega))) (fun j hj _ => HA.out j hj (by omega))
      go_wp2
      go_ret
      exact ⟨ret_bool HR.out.symm, _, HW.out⟩
set_option maxHeartbeats 1000000 in
theorem sbin (w : World) (a : Option Addr) (cap : Nat) (xs : List Int) (x : Int) (hx : IsL w a xs) (hl : xs.length ≤ 1048576) :
    Calls Try.prog 12 #[.slice a xs.length cap, .int .i64 x] w fun e w' => e = .returned (.int .i64 (bin xs x)) ∧ w' = w := by
  go_enter Try.func12, Try.ntmps12
  go_wp2
  go_loop [5, 6] (fun q i => ∃ k : Nat, k ≤ xs.length ∧ i = .int .i64 k ∧ q = .int .i64 (bin (xs.take k) x)) (fun _ i => xs.length - (intOf i).toNat)
  case atStart => exact ⟨0, Nat.zero_le _, rfl, rfl⟩
  case round =>
    obtain ⟨k, hk, rfl, rfl⟩ := hrel
    by_cases hlt : k < xs.length
    · rcases hx with rfl | ⟨b, off, rfl, hb, hc⟩
      · simp at hlt
      have hcx := hc k hlt
      have hle := bin_le (xs.take k) x
      have hll : (xs.take k).length ≤ k := by simp; omega
      clear hc
      by_cases hv : xs[k] < x
      · have HR : Hid (bin (xs.take (k + 1)) x = bin (xs.take k) x + 1) := bin_yes hlt hv
        obtain ⟨y, ey⟩ : ∃ y, xs[k] = y := ⟨_, rfl⟩
        rw [ey] at hcx hv
        obtain ⟨q, eq⟩ : ∃ q, bin (xs.take k) x = q := ⟨_, rfl⟩
        rw [eq] at HR hle ⊢
        clear ey eq
        go_wp2
        go_round
        case rel => exact ⟨k + 1, by omega, by go_num, by rw [HR.out]; go_num⟩
        case measure => simp [intOf]; omega
      · have HR : Hid (bin (xs.take (k + 1)) x = bin (xs.take k) x) := bin_no hlt hv
        obtain ⟨y, ey⟩ : ∃ y, xs[k] = y := ⟨_, rfl⟩
        rw [ey] at hcx hv
        obtain ⟨q, eq⟩ : ∃ q, bin (xs.take k) x = q := ⟨_, rfl⟩
        rw [eq] at HR hle ⊢
        clear ey eq
        go_wp2
        go_round
        case rel => exact ⟨k + 1, by omega, by go_num, by rw [HR.out]⟩
        case measure => simp [intOf]; omega
    · obtain rfl : k = xs.length := by omega
      go_wp2
      go_ret
      exact ⟨rfl, rfl⟩
set_option maxHeartbeats 1000000 in
theorem ibin (w : World) (a : Option Addr) (cap : Nat) (xs : List Int) (x : Int) (hx : IsL w a xs) (hl : xs.length ≤ 1048576) :
    Calls Try.prog 11 #[.slice a xs.length cap, .int .i64 x] w fun e w' => e = .returned (.int .i64 (bin xs x)) ∧ w' = w := by
  go_enter Try.func11, Try.ntmps11
  go_wp2
  go_loop [5, 10] (fun q i => ∃ k : Nat, k ≤ xs.length ∧ i = .int .i64 k ∧ q = .int .i64 (bin (xs.take k) x)) (fun _ i => xs.length - (intOf i).toNat)
  case atStart => exact ⟨0, Nat.zero_le _, rfl, rfl⟩
  case round =>
    obtain ⟨k, hk, rfl, rfl⟩ := hrel
    by_cases hlt : k < xs.length
    · rcases hx with rfl | ⟨b, off, rfl, hb, hc⟩
      · simp at hlt
      have hcx := hc k hlt
      have hle := bin_le (xs.take k) x
      have hll : (xs.take k).length ≤ k := by simp; omega
      clear hc
      by_cases hv : xs[k] < x
      · have HR : Hid (bin (xs.take (k + 1)) x = bin (xs.take k) x + 1) := bin_yes hlt hv
        obtain ⟨y, ey⟩ : ∃ y, xs[k] = y := ⟨_, rfl⟩
        rw [ey] at hcx hv
        obtain ⟨q, eq⟩ : ∃ q, bin (xs.take k) x = q := ⟨_, rfl⟩
        rw [eq] at HR hle ⊢
        clear ey eq
        go_wp2
        go_round
        case rel => exact ⟨k + 1, by omega, by go_num, by rw [HR.out]; go_num⟩
        case measure => simp [intOf]; omega
      · have HR : Hid (bin (xs.take (k + 1)) x = bin (xs.take k) x) := bin_no hlt hv
        obtain ⟨y, ey⟩ : ∃ y, xs[k] = y := ⟨_, rfl⟩
        rw [ey] at hcx hv
        obtain ⟨q, eq⟩ : ∃ q, bin (xs.take k) x = q := ⟨_, rfl⟩
        rw [eq] at HR hle ⊢
        clear ey eq
        go_wp2
        go_round
        case rel => exact ⟨k + 1, by omega, by go_num, by rw [HR.out]⟩
        case measure => simp [intOf]; omega
    · obtain rfl : k = xs.length := by omega
      go_wp2
      go_ret
      exact ⟨rfl, rfl⟩
end Go.Proofs.Ytjkmajfnpcdklaa.Bw
