/-
  Dictionaries: contracts of IdOf, of the program and of its model, over one plain function.
-/
import Derived.Test.YtkiddmbenepfjaaWords
import Derived.Test.YtkiddmbenepfjaaApd
import Derived.Test.YtkiddmbenepfjaaSiz
namespace Go.Proofs.Ytkiddmbenepfjaa.Di
open Go.RowKit
open Go.Proofs.Ytkiddmbenepfjaa.Wd
open Go.Proofs.Ytkiddmbenepfjaa.Li (ret_int below_none)
theorem ba_beq {s t : ByteArray} (h : s = t) : (s.toList == t.toList) = true := Ls.tl_eq h
set_option maxHeartbeats 1000000 in
theorem sid0 (w : World) (a : Option Addr) (cap : Nat) (xs : List ByteArray) (s : ByteArray) (hx : Ls.IsS w a xs) (hl : xs.length ≤ 1048576) :
    Calls Try.prog 51 #[.slice a xs.length cap, .string s] w fun e w' => e = .returned (.int .i64 (idOf xs s)) ∧ w' = w := by
  go_enter Try.func51, Try.ntmps51
  go_wp2
  go_loop [5] (fun i => ∃ k : Nat, k ≤ xs.length ∧ i = .int .i64 k ∧ ∀ j (hj : j < xs.length), j < k → ¬ xs[j] = s) (fun i => xs.length - (intOf i).toNat)
  case atStart => exact ⟨0, Nat.zero_le _, rfl, fun j hj h => by omega⟩
  case round =>
    obtain ⟨k, hk, rfl, hn⟩ := hrel
    have HN : Hid (∀ j (hj : j < xs.length), j < k → ¬ xs[j] = s) := hn
    clear hn
    by_cases hlt : k < xs.length
    · rcases hx with rfl | ⟨b, off, rfl, hb, hc⟩
      · simp at hlt
      have hcx := hc k hlt
      clear hc
      by_cases he : xs[k] = s
      · have HR : Hid (idOf xs s = k) := idOf_found hlt he HN.out
        have he' : (xs[k].toList == s.toList) = true := Ls.tl_eq he
        clear he
        obtain ⟨x, ex⟩ : ∃ x, xs[k] = x := ⟨_, rfl⟩
        rw [ex] at hcx he'
        clear ex
        go_wp2
        go_ret
        exact ⟨ret_int HR.out.symm, rfl⟩
      · have HR : Hid (∀ j (hj : j < xs.length), j < k + 1 → ¬ xs[j] = s) := fun j hj h => by
          by_cases e : j = k
          · subst e; exact he
          · exact HN.out j hj (by omega)
        have he' : (xs[k].toList == s.toList) = false := Ls.tl_ne he
        clear he
        obtain ⟨x, ex⟩ : ∃ x, xs[k] = x := ⟨_, rfl⟩
        rw [ex] at hcx he'
        clear ex
        go_wp2
        go_round
        case rel => exact ⟨k + 1, by omega, by go_num, HR.out⟩
        case measure => simp [intOf]; omega
    · have HR : Hid (idOf xs s = -1) := idOf_none (fun j hj => HN.out j hj (by omega))
      go_wp2
      go_ret
      exact ⟨ret_int HR.out.symm, rfl⟩
theorem sid (w : World) (a : Option Addr) (cap : Nat) (xs : List ByteArray) (s : ByteArray) (hx : Ls.IsS w a xs) (hl : xs.length ≤ 1048576) :
    Calls Try.prog 51 #[.slice a xs.length cap, .string s] w fun e w' => e = .returned (.int .i64 (idOf xs s)) ∧ Below w.heap.size w w' := by
  refine (sid0 w a cap xs s hx hl).mono ?_
  rintro e w' ⟨rfl, rfl⟩
  exact ⟨rfl, Below.refl _ _⟩
set_option maxHeartbeats 1000000 in
theorem lid0 (w : World) (a : Option Addr) (cap : Nat) (xs : List ByteArray) (s : ByteArray) (hx : Ls.IsS w a xs) (hl : xs.length ≤ 1048576) :
    Calls Try.prog 104 #[.slice a xs.length cap, .string s] w fun e w' => e = .returned (.int .i64 (idOf xs s)) ∧ w' = w := by
  go_enter Try.func104, Try.ntmps104
  go_wp2
  go_loop [8] (fun i => ∃ k : Nat, k ≤ xs.length ∧ i = .int .i64 k ∧ ∀ j (hj : j < xs.length), j < k → ¬ xs[j] = s) (fun i => xs.length - (intOf i).toNat)
  case atStart => exact ⟨0, Nat.zero_le _, rfl, fun j hj h => by omega⟩
  case round =>
    obtain ⟨k, hk, rfl, hn⟩ := hrel
    have HN : Hid (∀ j (hj : j < xs.length), j < k → ¬ xs[j] = s) := hn
    clear hn
    by_cases hlt : k < xs.length
    · rcases hx with rfl | ⟨b, off, rfl, hb, hc⟩
      · simp at hlt
      have hcx := hc k hlt
      clear hc
      by_cases he : xs[k] = s
      · have HR : Hid (idOf xs s = k) := idOf_found hlt he HN.out
        have he' : (s.toList == xs[k].toList) = true := Ls.tl_eq he.symm
        clear he
        obtain ⟨x, ex⟩ : ∃ x, xs[k] = x := ⟨_, rfl⟩
        rw [ex] at hcx he'
        clear ex
        go_wp2
        go_ret
        exact ⟨ret_int HR.out.symm, rfl⟩
      · have HR : Hid (∀ j (hj : j < xs.length), j < k + 1 → ¬ xs[j] = s) := fun j hj h => by
          by_cases e : j = k
          · subst e; exact he
          · exact HN.out j hj (by omega)
        have he' : (s.toList == xs[k].toList) = false := Ls.tl_ne (fun e => he e.symm)
        clear he
        obtain ⟨x, ex⟩ : ∃ x, xs[k] = x := ⟨_, rfl⟩
        rw [ex] at hcx he'
        clear ex
        go_wp2
        go_round
        case rel => exact ⟨k + 1, by omega, by go_num, HR.out⟩
        case measure => simp [intOf]; omega
    · have HR : Hid (idOf xs s = -1) := idOf_none (fun j hj => HN.out j hj (by omega))
      go_wp2
      go_ret
      exact ⟨ret_int HR.out.symm, rfl⟩
set_option maxHeartbeats 1000000 in
theorem iid0 (w : World) (a : Option Addr) (cap : Nat) (xs : List ByteArray) (s : ByteArray) (hx : Ls.IsS w a xs) (hl : xs.length ≤ 1048576) :
    Calls Try.prog 93 #[.slice a xs.length cap, .string s] w fun e w' => e = .returned (.int .i64 (idOf xs s)) ∧ w' = w := by
  go_enter Try.func93, Try.ntmps93
  go_wp2_with (go_at_call 104; refine (lid0 _ _ _ xs s hx hl).mono ?_; rintro e w' ⟨rfl, hw⟩; subst w')
  go_ret
  exact ⟨rfl, rfl⟩
set_option maxHeartbeats 1000000 in
theorem iid (w : World) (a : Option Addr) (cap : Nat) (xs : List ByteArray) (s : ByteArray) (hx : Ls.IsS w a xs) (hl : xs.length ≤ 1048576) :
    Calls Try.prog 93 #[.slice a xs.length cap, .string s] w fun e w' => e = .returned (.int .i64 (idOf xs s)) ∧ Below w.heap.size w w' := by
  go_enter Try.func93, Try.ntmps93
  go_wp2_with (go_at_call 104; refine (lid0 _ _ _ xs s hx hl).mono ?_; rintro e w' ⟨rfl, hw⟩; subst w')
  go_ret
  exact ⟨rfl, Below.refl _ _⟩
end Go.Proofs.Ytkiddmbenepfjaa.Di
