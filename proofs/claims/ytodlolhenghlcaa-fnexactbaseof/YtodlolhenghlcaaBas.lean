/-
  Labels that are right, all of them; the base of labels: contracts of the program's and of the model's.
-/
import Derived.Test.YtodlolhenghlcaaFlo
import Derived.Test.YtodlolhenghlcaaLab
namespace Go.Proofs.Ytodlolhenghlcaa.Ba
open Go.RowKit
open Go.Proofs.Ytodlolhenghlcaa.Tk (lok)
open Go.Proofs.Ytodlolhenghlcaa.Li (ret_bool ret_int below_none IsL btw)
set_option linter.unusedVariables false

def sm : List Int → Int
  | [] => 0
  | x :: xs => x + sm xs
theorem sm_append (xs ys : List Int) : sm (xs ++ ys) = sm xs + sm ys := by
  induction xs with
  | nil => simp [sm]
  | cons x xs ih => simp [sm, ih]; omega
theorem sm_bd (xs : List Int) (h : xs.all lok = true) : -(1000000 * (xs.length : Int)) ≤ sm xs ∧ sm xs ≤ 1000000 * (xs.length : Int) := by
  induction xs with
  | nil => simp [sm]
  | cons x xs ih =>
    simp only [List.all_cons, Bool.and_eq_true] at h
    have h1 := ih h.2
    have h2 : -1000000 ≤ x ∧ x ≤ 1000000 := by simpa [lok] using h.1
    simp only [sm, List.length_cons]
    omega
def base (ls : List Int) : Int := if ls.length = 0 ∨ 40 < ls.length ∨ ls.all lok = false then 0 else Ar.flo (sm ls) ls.length
theorem base_no {ls : List Int} (h : ls.length = 0 ∨ 40 < ls.length ∨ ls.all lok = false) : base ls = 0 := by unfold base; rw [if_pos h]
theorem base_yes {ls : List Int} (h0 : ¬ ls.length = 0) (h1 : ¬ 40 < ls.length) (h2 : ls.all lok = true) : base ls = Ar.flo (sm ls) ls.length := by
  unfold base; rw [if_neg]; rintro (h | h | h)
  · exact h0 h
  · exact h1 h
  · rw [h2] at h; cases h
theorem pre_snoc {α : Type} (p : α → Bool) (xs : List α) (k : Nat) (h : k < xs.length) (ha : (xs.take k).all p = true) (hb : p xs[k] = true) : (xs.take (k + 1)).all p = true := by
  rw [List.take_succ_eq_append_getElem h, List.all_append, ha]; simp [hb]
theorem pre_no {α : Type} (p : α → Bool) (xs : List α) (k : Nat) (h : k < xs.length) (hb : p xs[k] = false) : xs.all p = false := by
  rw [List.all_eq_false]
  exact ⟨xs[k], List.getElem_mem h, by simp [hb]⟩
theorem pre_end {α : Type} (p : α → Bool) (xs : List α) (k : Nat) (h : ¬ k < xs.length) (ha : (xs.take k).all p = true) : xs.all p = true := by
  rwa [List.take_of_length_le (by omega)] at ha
theorem take_all {α : Type} (p : α → Bool) (xs : List α) (k : Nat) (h : xs.all p = true) : (xs.take k).all p = true := by
  rw [List.all_eq_true] at h ⊢
  intro x hx; exact h x (List.mem_of_mem_take hx)
theorem sm_take {ls : List Int} {k : Nat} (h : k < ls.length) : sm (ls.take (k + 1)) = sm (ls.take k) + ls[k] := by
  rw [List.take_succ_eq_append_getElem h, sm_append]; simp [sm]
set_option maxHeartbeats 1000000 in
theorem iall (w : World) (a : Option Addr) (c : Nat) (ls : List Int) (hl : IsL w a ls) (hll : ls.length ≤ 1048577) :
    Calls Try.prog 35 #[.slice a ls.length c] w fun e w' => e = .returned (.bool (ls.all lok)) ∧ w' = w := by
  go_enter Try.func35, Try.ntmps35
  go_wp2
  go_loop [7] (fun i => ∃ k : Nat, k ≤ ls.length ∧ i = .int .i64 k ∧ (ls.take k).all lok = true) (fun i => ls.length - (intOf i).toNat)
  case atStart => exact ⟨0, Nat.zero_le _, rfl, by simp⟩
  case round =>
    obtain ⟨k, hk, rfl, ha⟩ := hrel
    have HA : Hid ((ls.take k).all lok = true) := ha
    clear ha
    by_cases hlt : k < ls.length
    · rcases hl with rfl | ⟨b, off, rfl, hb, hc⟩
      · simp at hlt
      have hcx := hc k hlt
      clear hc
      cases hv : lok ls[k]
      · have HR : Hid (ls.all lok = false) := pre_no lok ls k hlt hv
        obtain ⟨x, hx⟩ : ∃ x, ls[k] = x := ⟨_, rfl⟩
        rw [hx] at hcx hv
        clear hx
        go_wp2_with (go_at_call 45; refine (Tk.ilab _ _).mono ?_; rintro e w' ⟨rfl, hw⟩; subst w'; rw [hv])
        go_ret
        exact ⟨by rw [HR.out]; rfl, rfl⟩
      · have HR : Hid ((ls.take (k + 1)).all lok = true) := pre_snoc lok ls k hlt HA.out hv
        obtain ⟨x, hx⟩ : ∃ x, ls[k] = x := ⟨_, rfl⟩
        rw [hx] at hcx hv
        clear hx
        go_wp2_with (go_at_call 45; refine (Tk.ilab _ _).mono ?_; rintro e w' ⟨rfl, hw⟩; subst w'; rw [hv])
        go_round
        case rel => exact ⟨k + 1, by omega, by go_num, HR.out⟩
        case measure => simp [intOf]; omega
    · have HR : Hid (ls.all lok = true) := pre_end lok ls k hlt HA.out
      go_wp2
      go_ret
      exact ⟨by rw [HR.out]; rfl, rfl⟩
set_option maxHeartbeats 1000000 in
theorem slabs (w : World) (a : Option Addr) (c : Nat) (ls : List Int) (hl : IsL w a ls) (hll : ls.length ≤ 1048577) :
    Calls Try.prog 33 #[.slice a ls.length c] w fun e w' => e = .returned (.bool (decide (ls.length ≤ 40) && ls.all lok)) ∧ w' = w := by
  by_cases h40 : 40 < ls.length
  · have hr : (decide (ls.length ≤ 40) && ls.all lok) = false := by rw [decide_eq_false (by omega)]; rfl
    rw [hr]
    go_enter Try.func33, Try.ntmps33
    go_wp2
    go_ret
    exact ⟨rfl, rfl⟩
  have hr : (decide (ls.length ≤ 40) && ls.all lok) = ls.all lok := by rw [decide_eq_true (by omega)]; rfl
  rw [hr]
  clear hr
  go_enter Try.func33, Try.ntmps33
  go_wp2
  go_loop [3] (fun i => ∃ k : Nat, k ≤ ls.length ∧ i = .int .i64 k ∧ (ls.take k).all lok = true) (fun i => ls.length - (intOf i).toNat)
  case atStart => exact ⟨0, Nat.zero_le _, rfl, by simp⟩
  case round =>
    obtain ⟨k, hk, rfl, ha⟩ := hrel
    have HA : Hid ((ls.take k).all lok = true) := ha
    clear ha
    by_cases hlt : k < ls.length
    · rcases hl with rfl | ⟨b, off, rfl, hb, hc⟩
      · simp at hlt
      have hcx := hc k hlt
      clear hc
      cases hv : lok ls[k]
      · have HR : Hid (ls.all lok = false) := pre_no lok ls k hlt hv
        obtain ⟨x, hx⟩ : ∃ x, ls[k] = x := ⟨_, rfl⟩
        rw [hx] at hcx hv
        clear hx
        go_wp2_with (go_at_call 44; refine (Tk.slab _ _).mono ?_; rintro e w' ⟨rfl, hw⟩; subst w'; rw [hv])
        go_ret
        exact ⟨by rw [HR.out]; rfl, rfl⟩
      · have HR : Hid ((ls.take (k + 1)).all lok = true) := pre_snoc lok ls k hlt HA.out hv
        obtain ⟨x, hx⟩ : ∃ x, ls[k] = x := ⟨_, rfl⟩
        rw [hx] at hcx hv
        clear hx
        go_wp2_with (go_at_call 44; refine (Tk.slab _ _).mono ?_; rintro e w' ⟨rfl, hw⟩; subst w'; rw [hv])
        go_round
        case rel => exact ⟨k + 1, by omega, by go_num, HR.out⟩
        case measure => simp [intOf]; omega
    · have HR : Hid (ls.all lok = true) := pre_end lok ls k hlt HA.out
      go_wp2
      go_ret
      exact ⟨by rw [HR.out]; rfl, rfl⟩
set_option maxHeartbeats 1000000 in
theorem sbase (w : World) (a : Option Addr) (c : Nat) (ls : List Int) (hl : IsL w a ls) (hll : ls.length ≤ 1048577) :
    Calls Try.prog 15 #[.slice a ls.length c] w fun e w' => e = .returned (.int .i64 (base ls)) ∧ w' = w := by
  cases hv : (decide (ls.length ≤ 40) && ls.all lok)
  · have hb0 : base ls = 0 := base_no (by
      by_cases h : 40 < ls.length
      · exact .inr (.inl h)
      · rw [decide_eq_true (by omega)] at hv; exact .inr (.inr (by simpa using hv)))
    rw [hb0]
    clear hb0
    go_enter Try.func15, Try.ntmps15
    go_wp2_with (go_at_call 33; refine (slabs _ _ _ ls hl hll).mono ?_; rintro e w' ⟨rfl, hw⟩; subst w'; rw [hv])
    go_ret
    exact ⟨rfl, rfl⟩
  have h40 : ¬ 40 < ls.length := by simp at hv; omega
  have hall : ls.all lok = true := by rw [Bool.and_eq_true] at hv; exact hv.2
  have hd : (decide (ls.length ≤ 40) && ls.all lok) = true := hv
  have HV : Hid ((decide (ls.length ≤ 40) && ls.all lok) = true) := hv
  by_cases h0 : ls.length = 0
  · have hb0 : base ls = 0 := base_no (.inl h0)
    rw [hb0]
    clear hb0
    have hz : ((ls.length : Int) == 0) = true := by rw [beq_iff_eq]; omega
    clear h0
    go_enter Try.func15, Try.ntmps15
    go_wp2_with (go_at_call 33; refine (slabs _ _ _ ls hl hll).mono ?_; rintro e w' ⟨rfl, hw⟩; subst w'; rw [hv])
    go_ret
    exact ⟨rfl, rfl⟩
  have hz : ((ls.length : Int) == 0) = false := by rw [beq_eq_false_iff_ne]; omega
  clear hv
  try clear hd
  have HB : Hid (base ls = Ar.flo (sm ls) ls.length) := base_yes h0 h40 hall
  go_enter Try.func15, Try.ntmps15
  go_wp2_with (go_at_call 33; refine (slabs _ _ _ ls hl hll).mono ?_; rintro e w' ⟨rfl, hw⟩; subst w'; rw [HV.out])
  go_loop [3, 4] (fun s i => ∃ k : Nat, k ≤ ls.length ∧ i = .int .i64 k ∧ s = .int .i64 (sm (ls.take k))) (fun _ i => ls.length - (intOf i).toNat)
  case atStart => exact ⟨0, Nat.zero_le _, rfl, rfl⟩
  case round =>
    obtain ⟨k, hk, rfl, rfl⟩ := hrel
    by_cases hlt : k < ls.length
    · rcases hl with rfl | ⟨b, off, rfl, hb, hc⟩
      · simp at hlt
      have hcx := hc k hlt
      clear hc
      have HR : Hid (sm (ls.take (k + 1)) = sm (ls.take k) + ls[k]) := sm_take hlt
      have b1 := sm_bd (ls.take k) (take_all lok ls k hall)
      have b2 : -1000000 ≤ ls[k] ∧ ls[k] ≤ 1000000 := by have := List.all_eq_true.1 hall _ (List.getElem_mem hlt); simpa [lok] using this
      have b3 : ((ls.take k).length : Int) ≤ 40 := by simp; omega
      obtain ⟨s1, e1⟩ : ∃ s1, sm (ls.take k) = s1 := ⟨_, rfl⟩
      obtain ⟨x, hx⟩ : ∃ x, ls[k] = x := ⟨_, rfl⟩
      rw [e1] at b1 HR ⊢
      rw [hx] at b2 hcx HR
      have b4 : -40000000 ≤ s1 ∧ s1 ≤ 40000000 := by omega
      clear e1 hx b1 b3 hall
      go_wp2
      go_round
      case rel => exact ⟨k + 1, by omega, by go_num, by rw [HR.out]⟩
      case measure => simp [intOf]; omega
    · obtain rfl : k = ls.length := by omega
      rw [List.take_length]
      have hne : ¬ (ls.length : Int) = 0 := by omega
      obtain ⟨s1, e1⟩ : ∃ s1, sm ls = s1 := ⟨_, rfl⟩
      rw [e1] at HB ⊢
      clear e1
      go_wp2_with (go_at_call 34; refine (Ar.floor_any _ _ _ hne).mono ?_; rintro e w' ⟨rfl, hw⟩; subst w')
      go_ret
      exact ⟨by rw [HB.out]; rfl, rfl⟩
set_option maxHeartbeats 1000000 in
theorem ibase (w : World) (a : Option Addr) (c : Nat) (ls : List Int) (hl : IsL w a ls) (hll : ls.length ≤ 1048577) :
    Calls Try.prog 17 #[.slice a ls.length c] w fun e w' => e = .returned (.int .i64 (base ls)) ∧ w' = w := by
  by_cases h0 : ls.length = 0
  · have hb0 : base ls = 0 := base_no (.inl h0)
    rw [hb0]
    clear hb0
    have hz : ((ls.length : Int) == 0) = true := by rw [beq_iff_eq]; omega
    clear h0
    go_enter Try.func17, Try.ntmps17
    go_wp2
    go_ret
    exact ⟨rfl, rfl⟩
  have hz : ((ls.length : Int) == 0) = false := by rw [beq_eq_false_iff_ne]; omega
  by_cases h40 : 40 < ls.length
  · have hb0 : base ls = 0 := base_no (.inr (.inl h40))
    rw [hb0]
    clear hb0
    go_enter Try.func17, Try.ntmps17
    go_wp2
    go_ret
    exact ⟨rfl, rfl⟩
  have hd : decide (40 < (ls.length : Int)) = false := by simp; omega
  cases hv : ls.all lok
  · have hb0 : base ls = 0 := base_no (.inr (.inr hv))
    rw [hb0]
    clear hb0
    go_enter Try.func17, Try.ntmps17
    go_wp2_with (go_at_call 35; refine (iall _ _ _ ls hl hll).mono ?_; rintro e w' ⟨rfl, hw⟩; subst w'; rw [hv])
    go_ret
    exact ⟨rfl, rfl⟩
  have hall : ls.all lok = true := hv
  have HV : Hid (ls.all lok = true) := hv
  clear hv
  try clear hd
  have HB : Hid (base ls = Ar.flo (sm ls) ls.length) := base_yes h0 h40 hall
  go_enter Try.func17, Try.ntmps17
  go_wp2_with (go_at_call 35; refine (iall _ _ _ ls hl hll).mono ?_; rintro e w' ⟨rfl, hw⟩; subst w'; rw [HV.out])
  go_loop [3, 21] (fun s i => ∃ k : Nat, k ≤ ls.length ∧ i = .int .i64 k ∧ s = .int .i64 (sm (ls.take k))) (fun _ i => ls.length - (intOf i).toNat)
  case atStart => exact ⟨0, Nat.zero_le _, rfl, rfl⟩
  case round =>
    obtain ⟨k, hk, rfl, rfl⟩ := hrel
    by_cases hlt : k < ls.length
    · rcases hl with rfl | ⟨b, off, rfl, hb, hc⟩
      · simp at hlt
      have hcx := hc k hlt
      clear hc
      have HR : Hid (sm (ls.take (k + 1)) = sm (ls.take k) + ls[k]) := sm_take hlt
      have b1 := sm_bd (ls.take k) (take_all lok ls k hall)
      have b2 : -1000000 ≤ ls[k] ∧ ls[k] ≤ 1000000 := by have := List.all_eq_true.1 hall _ (List.getElem_mem hlt); simpa [lok] using this
      have b3 : ((ls.take k).length : Int) ≤ 40 := by simp; omega
      obtain ⟨s1, e1⟩ : ∃ s1, sm (ls.take k) = s1 := ⟨_, rfl⟩
      obtain ⟨x, hx⟩ : ∃ x, ls[k] = x := ⟨_, rfl⟩
      rw [e1] at b1 HR ⊢
      rw [hx] at b2 hcx HR
      have b4 : -40000000 ≤ s1 ∧ s1 ≤ 40000000 := by omega
      clear e1 hx b1 b3 hall
      go_wp2
      go_round
      case rel => exact ⟨k + 1, by omega, by go_num, by rw [HR.out]⟩
      case measure => simp [intOf]; omega
    · obtain rfl : k = ls.length := by omega
      rw [List.take_length]
      have hne : ¬ (ls.length : Int) = 0 := by omega
      obtain ⟨s1, e1⟩ : ∃ s1, sm ls = s1 := ⟨_, rfl⟩
      rw [e1] at HB ⊢
      clear e1
      go_wp2_with (go_at_call 36; refine (Ar.floorBy_any _ _ _ hne).mono ?_; rintro e w' ⟨rfl, hw⟩; subst w')
      go_ret
      exact ⟨by rw [HB.out]; rfl, rfl⟩
theorem sbaseB (w : World) (a : Option Addr) (c : Nat) (ls : List Int) (hl : IsL w a ls) (hll : ls.length ≤ 1048577) :
    Calls Try.prog 15 #[.slice a ls.length c] w fun e w' => e = .returned (.int .i64 (base ls)) ∧ Below w.heap.size w w' :=
  (sbase w a c ls hl hll).mono fun e w' ⟨h, hw⟩ => ⟨h, by subst hw; exact Below.refl _ _⟩
theorem ibaseB (w : World) (a : Option Addr) (c : Nat) (ls : List Int) (hl : IsL w a ls) (hll : ls.length ≤ 1048577) :
    Calls Try.prog 17 #[.slice a ls.length c] w fun e w' => e = .returned (.int .i64 (base ls)) ∧ Below w.heap.size w w' :=
  (ibase w a c ls hl hll).mono fun e w' ⟨h, hw⟩ => ⟨h, by subst hw; exact Below.refl _ _⟩
end Go.Proofs.Ytodlolhenghlcaa.Ba
