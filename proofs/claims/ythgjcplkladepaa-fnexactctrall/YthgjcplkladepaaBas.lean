/-
  Labels that are right, all of them; the base of labels: contracts of the program's and of the model's.
-/
import Derived.Test.YthgjcplkladepaaFlo
import Derived.Test.YthgjcplkladepaaLab
namespace Go.Proofs.Ythgjcplkladepaa.Ba
open Go.RowKit
open Go.Proofs.Ythgjcplkladepaa.Tk (lok)
open Go.Proofs.Ythgjcplkladepaa.Li (ret_bool ret_int below_none IsL btw)
set_option linter.unusedVariables false

def sm : List Int → Int
  | [] => 0
  | x :: xs => x + sm xs
theorem sm_append (xs ys : List Int) : sm (xs ++ ys) = sm xs + sm ys := by
  induction xs with
  | nil => simp [sm]
  | cons x xs ih => simp [sm, ih]; omega
theorem sm_bd (xs : List Int) (h : xs.all lok = true) : -(1000000 * (xs.length : Int)) ≤ sm xs ∧ sm xs ≤ 1000000 * (xs.length : Int) := by
  induction xs with
  | nil => simp [sm]
  | cons x xs ih =>
    simp only [List.all_cons, Bool.and_eq_true] at h
    have h1 := ih h.2
    have h2 : -1000000 ≤ x ∧ x ≤ 1000000 := by simpa [lok] using h.1
    simp only [sm, List.length_cons]
    omega
def base (ls : List Int) : Int := if ls.length = 0 ∨ 40 < ls.length ∨ ls.all lok = false then 0 else Ar.flo (sm ls) ls.length
theorem base_no {ls : List Int} (h : ls.length = 0 ∨ 40 < ls.length ∨ ls.all lok = false) : base ls = 0 := by unfold base; rw [if_pos h]
theorem base_yes {ls : List Int} (h0 : ¬ ls.length = 0) (h1 : ¬ 40 < ls.length) (h2 : ls.all lok = true) : base ls = Ar.flo (sm ls) ls.length := by
  unfold base; rw [if_neg]; rintro (h | h | h)
  · exact h0 h
  · exact h1 h
  · rw [h2] at h; cases h
theorem pre_snoc {α : Type} (p : α → Bool) (xs : List α) (k : Nat) (h : k < xs.length) (ha : (xs.take k).all p = true) (hb : p xs[k] = true) : (xs.take (k + 1)).all p = true := by
  rw [List.take_succ_eq_append_getElem h, List.all_append, ha]; simp [hb]
theorem pre_no {α : Type} (p : α → Bool) (xs : List α) (k : Nat) (h : k < xs.length) (hb : p xs[k] = false) : xs.all p = false := by
  rw [List.all_eq_false]
  exact ⟨xs[k], List.getElem_mem h, by simp [hb]⟩
theorem pre_end {α : Type} (p : α → Bool) (xs : List α) (k : Nat) (h : ¬ k < xs.length) (ha : (xs.take k).all p = true) : xs.all p = true := by
  rwa [List.take_of_length_le (by omega)] at ha
theorem take_all {α : Type} (p : α → Bool) (xs : List α) (k : Nat) (h : xs.all p = true) : (xs.take k).all p = true := by
  rw [List.all_eq_true] at h ⊢
  intro x hx; exact h x (List.mem_of_mem_take hx)
theorem sm_take {ls : List Int} {k : Nat} (h : k < ls.length) : sm (ls.take (k + 1)) = sm (ls.take k) + ls[k] := by
  rw [List.take_succ_eq_append_getElem h, sm_append]; simp [sm]
set_option maxHeartbeats 1000000 in
theorem iall (w : World) (a : Option Addr) (c : Nat) (ls : List Int) (hl : IsL w a ls) (hll : ls.length ≤ 1048577) :
    Calls Try.prog 51 #[.slice a ls.length c] w fun e w' => e = .returned (.bool (ls.all lok)) ∧ w' = w := by
  go_enter Try.func51, Try.ntmps51
  go_wp2
  go_loop [7] (fun i => ∃ k : Nat, k ≤ ls.length ∧ i = .int .i64 k ∧ (ls.take k).all lok = true) (fun i => ls.length - (intOf i).toNat)
  case atStart => exact ⟨0, Nat.zero_le _, rfl, by simp⟩
  case round =>
    obtain ⟨k, hk, rfl, ha⟩ := hrel
    have HA : Hid ((ls.take k).all lok = true) := ha
    clear ha
    by_cases hlt : k < ls.length
    · rcases hl with rfl | ⟨b, off, rfl, hb, hc⟩
      · simp at hlt
      have hcx := hc k hlt
      clear hc
      cases hv : lok ls[k]
      · have HR : Hid (ls.all lok = false) := pre_no lok ls k hlt hv
        obtain ⟨x, hx⟩ : ∃ x, ls[k] = x := ⟨_, rfl⟩
        rw [hx] at hcx hv
        clear hx
        go_wp2_with (go_at_call 54; refine (Tk.ilab _ _).mono ?_; rintro e w' ⟨rfl, hw⟩; subst w'; rw [hv])
        go_ret
        exact ⟨by rw [HR.out]; rfl, rfl⟩
      · have HR : Hid ((ls.take (k + 1)).all lok = true) := pre_snoc lok ls k hlt HA.out hv
        obtain ⟨x, hx⟩ : ∃ x, ls[k] = x := ⟨_, rfl⟩
        rw [hx] at hcx hv
        clear hx
        go_wp2_with (go_at_call 54; refine (Tk.ilab _ _).mono ?_; rintro e w' ⟨rfl, hw⟩; subst w'; rw [hv])
        go_round
        case rel => exact ⟨k + 1, by omega, by go_num, HR.out⟩
        case measure => simp [intOf]; omega
    · have HR : Hid (ls.all lok = true) := pre_end lok ls k hlt HA.out
      go_wp2
      go_ret
      exact ⟨by rw [HR.out]; rfl, rfl⟩
end Go.Proofs.Ythgjcplkladepaa.Ba
