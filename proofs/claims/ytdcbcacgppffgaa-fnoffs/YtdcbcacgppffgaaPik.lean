/-
  What the laws pick out of their bytes: a number below the one asked for.
-/
import Derived.Test.YtdcbcacgppffgaaCur
namespace Go.Proofs.Ytdcbcacgppffgaa.Pk
set_option maxRecDepth 20000
open Go.RowKit
set_option linter.unusedVariables false
set_option maxHeartbeats 2000000 in
theorem lpick (w : World) (B : Nat) (a : Option Addr) (len cap : Nat) (hb : Cu.Bytes w B a len) (hl : (len : Int) ≤ 1048576) (i : Int) (i0 : 0 ≤ i) (i1 : i ≤ 1000) (n : Int) (hn : 2 ≤ n) (hn' : n ≤ 1000) :
    Calls Try.prog 11 #[.slice a len cap, .int .i64 i, .int .i64 n] w fun e w' => ∃ x : Int, e = .returned (.int .i64 x) ∧ 0 ≤ x ∧ x < n ∧ w' = w := by
  by_cases h0 : len = 0
  · subst h0
    go_enter Try.func11, Try.ntmps11
    go_wp2
    go_ret
    exact ⟨0, rfl, by omega, by omega, rfl⟩
  have h0' : ((len : Int) == 0) = false := by simp; omega
  rcases hb with rfl | ⟨cb, off, rfl, hcb, hc⟩
  · exact absurd rfl h0
  go_enter Try.func11, Try.ntmps11
  go_wp2
  go_loop [7, 8] (fun x k => ∃ (q : Nat) (y : Int), q ≤ 3 ∧ k = .int .i64 q ∧ x = .int .i64 y ∧ 0 ≤ y ∧ y ≤ 253215 ∧ (q = 0 → y ≤ 0) ∧ (q = 1 → y ≤ 255) ∧ (q = 2 → y ≤ 8160)) (fun _ k => 3 - (intOf k).toNat)
  case atStart => exact ⟨0, 0, by omega, rfl, rfl, by omega, by omega, by omega, by omega, by omega⟩
  case round =>
    obtain ⟨q, y, hq, rfl, rfl, y0, y1, z0, z1, z2⟩ := hrel
    by_cases h3 : q < 3
    · have m0 := Int.emod_nonneg (i + (q : Int)) (show (len : Int) ≠ 0 by omega)
      have m1 := Int.emod_lt_of_pos (i + (q : Int)) (show 0 < (len : Int) by omega)
      obtain ⟨b, hb, b0, b1⟩ := hc ((i + (q : Int)) % (len : Int)).toNat (by omega)
      clear hc
      have y2 : y ≤ 8160 := by omega
      have Z0 : Hid (q = 0 → y ≤ 0) := z0
      have Z1 : Hid (q = 1 → y ≤ 255) := z1
      clear z0 z1 z2
      go_wp2
      go_round
      case rel => exact ⟨q + 1, 31 * y + b, by omega, by go_num, rfl, by omega, by omega, by omega, by have := Z0.out; omega, by have := Z1.out; omega⟩
      case measure => simp [intOf]; omega
    · have h3' : q = 3 := by omega
      subst h3'
      clear z0 z1 z2
      have m0 := Int.emod_nonneg (y + i) (show n ≠ 0 by omega)
      have m1 := Int.emod_lt_of_pos (y + i) (show 0 < n by omega)
      go_wp2
      go_ret
      exact ⟨_, rfl, m0, m1, rfl⟩
end Go.Proofs.Ytdcbcacgppffgaa.Pk
