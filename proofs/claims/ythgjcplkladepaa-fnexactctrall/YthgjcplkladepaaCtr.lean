/-
  Which words, labels, orders and priors are right, and the numbers of words by labels: plain functions; contracts of the program's and of its model's functions, which answer just these.
-/
import Derived.Test.YthgjcplkladepaaTal
import Derived.Test.YthgjcplkladepaaLab
import Derived.Test.YthgjcplkladepaaPermW
import Derived.Deep.DeepMust
import Derived.Test.YthgjcplkladepaaBas
import Derived.Test.YthgjcplkladepaaCfo
namespace Go.Proofs.Ythgjcplkladepaa.Ct
open Go.RowKit
open Go.Proofs.Ythgjcplkladepaa.Wd
open Go.Proofs.Ythgjcplkladepaa.Tk (lok)
open Go.Proofs.Ythgjcplkladepaa.Pe (pok POk pok_iff)
open Go.Proofs.Ythgjcplkladepaa.Li (ret_bool ret_int below_none btw)

def rgt (n : Nat) (ls : List Int) (p : Int) : Bool := decide (n ≤ 40 ∧ ls.length = n ∧ -1000000 ≤ p ∧ p ≤ 1000000) && ls.all lok
theorem rgt_no {n : Nat} {ls : List Int} {p : Int} (h : ¬ (n ≤ 40 ∧ ls.length = n ∧ -1000000 ≤ p ∧ p ≤ 1000000)) : rgt n ls p = false := by unfold rgt; rw [decide_eq_false h]; rfl
theorem rgt_lab {n : Nat} {ls : List Int} {p : Int} (h : ls.all lok = false) : rgt n ls p = false := by unfold rgt; rw [h]; simp
theorem rgt_yes {n : Nat} {ls : List Int} {p : Int} (h : n ≤ 40 ∧ ls.length = n ∧ -1000000 ≤ p ∧ p ≤ 1000000) (h' : ls.all lok = true) : rgt n ls p = true := by unfold rgt; rw [decide_eq_true h, h']; rfl
theorem rgt_iff {n : Nat} {ls : List Int} {p : Int} : rgt n ls p = true ↔ (n ≤ 40 ∧ ls.length = n ∧ -1000000 ≤ p ∧ p ≤ 1000000) ∧ ls.all lok = true := by unfold rgt; simp
theorem rgt_sml {n : Nat} {ls : List Int} {p : Int} (h : rgt n ls p = true) : Sml ls := by
  refine sml_of fun x hx => ?_
  have := List.all_eq_true.1 (rgt_iff.1 h).2 x hx
  simpa [lok] using this
theorem pre_snoc {α : Type} (p : α → Bool) (xs : List α) (k : Nat) (h : k < xs.length) (ha : (xs.take k).all p = true) (hb : p xs[k] = true) : (xs.take (k + 1)).all p = true := by
  rw [List.take_succ_eq_append_getElem h, List.all_append, ha]; simp [hb]
theorem pre_no {α : Type} (p : α → Bool) (xs : List α) (k : Nat) (h : k < xs.length) (hb : p xs[k] = false) : xs.all p = false := by
  rw [List.all_eq_false]
  exact ⟨xs[k], List.getElem_mem h, by simp [hb]⟩
theorem pre_end {α : Type} (p : α → Bool) (xs : List α) (k : Nat) (h : ¬ k < xs.length) (ha : (xs.take k).all p = true) : xs.all p = true := by
  rwa [List.take_of_length_le (by omega)] at ha

set_option maxHeartbeats 2000000 in
theorem ilok (w : World) (aw al : Option Addr) (n cw cl : Nat) (ls : List Int) (p : Int) (hl : Li.IsL w al ls) (hn : n ≤ 1048576) (hll : ls.length ≤ 1048577) :
    Calls Try.prog 40 #[.slice aw n cw, .slice al ls.length cl, .int .i64 p] w fun e w' => e = .returned (.bool (rgt n ls p)) ∧ w' = w := by
  by_cases h1 : 40 < n
  · rw [rgt_no (by omega)]
    have h1' : decide ((n : Int) ≤ 40) = false := by simp; omega
    go_enter Try.func40, Try.ntmps40
    go_wp2
    go_ret
    exact ⟨rfl, rfl⟩
  have h1' : decide ((n : Int) ≤ 40) = true := by simp; omega
  by_cases h2 : ls.length = n
  rotate_left
  · rw [rgt_no (by omega)]
    have h2' : ((ls.length : Int) == (n : Int)) = false := by rw [beq_eq_false_iff_ne]; omega
    go_enter Try.func40, Try.ntmps40
    go_wp2
    go_ret
    exact ⟨rfl, rfl⟩
  have h2' : ((ls.length : Int) == (n : Int)) = true := by rw [beq_iff_eq]; omega
  have H2 : Hid (ls.length = n) := h2
  clear h2
  cases h3 : btw p (-1000000) 1000000
  · rw [rgt_no (by intro h; simp [btw] at h3; omega)]
    go_enter Try.func40, Try.ntmps40
    go_wp2_with (go_at_call 50; refine (Cf.iprior _ _).mono ?_; rintro e w' ⟨rfl, hw⟩; subst w'; rw [h3])
    go_ret
    exact ⟨rfl, rfl⟩
  have hp := Cf.dec_btw h3
  have HR : Hid (rgt n ls p = ls.all lok) := by
    show _ = _
    unfold rgt
    rw [decide_eq_true ⟨by omega, H2.out, hp⟩]; rfl
  go_enter Try.func40, Try.ntmps40
  go_wp2_with (first
    | (go_at_call 50; refine (Cf.iprior _ _).mono ?_; rintro e w' ⟨rfl, hw⟩; subst w'; rw [h3])
    | (go_at_call 51; refine (Ba.iall _ _ _ ls hl hll).mono ?_; rintro e w' ⟨rfl, hw⟩; subst w'))
  go_ret
  exact ⟨ret_bool HR.out.symm, rfl⟩
set_option maxHeartbeats 2000000 in
theorem slok (w : World) (aw al : Option Addr) (n cw cl : Nat) (ls : List Int) (p : Int) (hl : Li.IsL w al ls) (hn : n ≤ 1048576) (hll : ls.length ≤ 1048577) :
    Calls Try.prog 36 #[.slice aw n cw, .slice al ls.length cl, .int .i64 p] w fun e w' => e = .returned (.bool (rgt n ls p)) ∧ w' = w := by
  by_cases h1 : 40 < n
  · rw [rgt_no (by omega)]
    go_enter Try.func36, Try.ntmps36
    go_wp2
    go_ret
    exact ⟨rfl, rfl⟩
  have h1' : decide (40 < (n : Int)) = false := by simp; omega
  by_cases h2 : ls.length = n
  rotate_left
  · rw [rgt_no (by omega)]
    have h2' : ((ls.length : Int) != (n : Int)) = true := by simp; omega
    go_enter Try.func36, Try.ntmps36
    go_wp2
    go_ret
    exact ⟨rfl, rfl⟩
  have h2' : ((ls.length : Int) != (n : Int)) = false := by simp; omega
  have H2 : Hid (ls.length = n) := h2
  clear h2
  by_cases h3 : -1000000 ≤ p ∧ p ≤ 1000000
  rotate_left
  · rw [rgt_no (by omega)]
    have hbt : btw p (-1000000) 1000000 = false := by simp [btw]; omega
    go_enter Try.func36, Try.ntmps36
    go_wp2_with (go_at_call 38; refine (Li.between_any _ _ _ _).mono ?_; rintro e w' ⟨rfl, hw⟩; subst w'; rw [hbt])
    go_ret
    exact ⟨rfl, rfl⟩
  have hbt : btw p (-1000000) 1000000 = true := by simp [btw]; omega
  go_enter Try.func36, Try.ntmps36
  go_wp2_with (go_at_call 38; refine (Li.between_any _ _ _ _).mono ?_; rintro e w' ⟨rfl, hw⟩; subst w'; rw [hbt])
  go_loop [7] (fun i => ∃ k : Nat, k ≤ ls.length ∧ i = .int .i64 k ∧ (ls.take k).all lok = true) (fun i => ls.length - (intOf i).toNat)
  case atStart => exact ⟨0, Nat.zero_le _, rfl, by simp⟩
  case round =>
    obtain ⟨k, hk, rfl, ha⟩ := hrel
    have HA : Hid ((ls.take k).all lok = true) := ha
    clear ha
    by_cases hlt : k < ls.length
    · rcases hl with rfl | ⟨b, off, rfl, hb, hc⟩
      · simp at hlt
      have hcx := hc k hlt
      clear hc
      cases hv : lok ls[k]
      · have HR : Hid (rgt n ls p = false) := rgt_lab (pre_no lok ls k hlt hv)
        obtain ⟨x, hx⟩ : ∃ x, ls[k] = x := ⟨_, rfl⟩
        rw [hx] at hcx hv
        clear hx
        go_wp2_with (go_at_call 49; refine (Tk.slab _ _).mono ?_; rintro e w' ⟨rfl, hw⟩; subst w'; rw [hv])
        go_ret
        exact ⟨by rw [HR.out]; rfl, rfl⟩
      · have HR : Hid ((ls.take (k + 1)).all lok = true) := pre_snoc lok ls k hlt HA.out hv
        obtain ⟨x, hx⟩ : ∃ x, ls[k] = x := ⟨_, rfl⟩
        rw [hx] at hcx hv
        clear hx
        go_wp2_with (go_at_call 49; refine (Tk.slab _ _).mono ?_; rintro e w' ⟨rfl, hw⟩; subst w'; rw [hv])
        go_round
        case rel => exact ⟨k + 1, by omega, by go_num, HR.out⟩
        case measure => simp [intOf]; omega
    · have HR : Hid (rgt n ls p = true) := rgt_yes ⟨by omega, H2.out, by omega, by omega⟩ (pre_end lok ls k hlt HA.out)
      go_wp2
      go_ret
      exact ⟨by rw [HR.out]; rfl, rfl⟩
/-- .. and the order. -/
noncomputable def ord (n : Nat) (ls ps : List Int) (p : Int) : Bool := rgt n ls p && (decide (ps.length = n) && pok ps)
theorem ord_iff {n : Nat} {ls ps : List Int} {p : Int} : ord n ls ps p = true ↔ rgt n ls p = true ∧ ps.length = n ∧ POk ps := by unfold ord; simp [pok_iff]
theorem ord_no1 {n : Nat} {ls ps : List Int} {p : Int} (h : rgt n ls p = false) : ord n ls ps p = false := by unfold ord; rw [h]; rfl
theorem ord_no2 {n : Nat} {ls ps : List Int} {p : Int} (h : ¬ ps.length = n) : ord n ls ps p = false := by unfold ord; rw [decide_eq_false h]; simp
theorem ord_no3 {n : Nat} {ls ps : List Int} {p : Int} (h : pok ps = false) : ord n ls ps p = false := by unfold ord; rw [h]; simp
theorem ord_yes {n : Nat} {ls ps : List Int} {p : Int} (h1 : rgt n ls p = true) (h2 : ps.length = n) (h3 : pok ps = true) : ord n ls ps p = true := by unfold ord; rw [h1, h3, decide_eq_true h2]; rfl
set_option maxHeartbeats 2000000 in
theorem iord (w : World) (aw al ap : Option Addr) (n cw cl cp : Nat) (ls ps : List Int) (p : Int) (hl : Li.IsL w al ls) (hp : Li.IsL w ap ps) (hn : n ≤ 1048576) (hll : ls.length ≤ 1048577) (hpl : ps.length ≤ 1048577) :
    Calls Try.prog 33 #[.slice aw n cw, .slice al ls.length cl, .slice ap ps.length cp, .int .i64 p] w fun e w' => e = .returned (.bool (ord n ls ps p)) ∧ Below w.heap.size w w' := by
  cases h1 : rgt n ls p
  · rw [ord_no1 h1]
    go_enter Try.func33, Try.ntmps33
    go_wp2_with (go_at_call 40; refine (ilok _ _ _ _ _ _ ls p hl hn hll).mono ?_; rintro e w' ⟨rfl, hw⟩; subst w'; rw [h1])
    go_ret
    exact ⟨rfl, Below.refl _ _⟩
  by_cases h2 : ps.length = n
  rotate_left
  · rw [ord_no2 h2]
    have h2' : ((ps.length : Int) == (n : Int)) = false := by simp; omega
    go_enter Try.func33, Try.ntmps33
    go_wp2_with (go_at_call 40; refine (ilok _ _ _ _ _ _ ls p hl hn hll).mono ?_; rintro e w' ⟨rfl, hw⟩; subst w'; rw [h1])
    go_ret
    exact ⟨rfl, Below.refl _ _⟩
  have h2' : ((ps.length : Int) == (n : Int)) = true := by simp; omega
  have HR : Hid (ord n ls ps p = pok ps) := by show ord n ls ps p = pok ps; unfold ord; rw [h1, decide_eq_true h2]; rfl
  clear h2
  go_enter Try.func33, Try.ntmps33
  go_wp2_with (first
    | (go_at_call 40; refine (ilok _ _ _ _ _ _ ls p hl hn hll).mono ?_; rintro e w' ⟨rfl, hw⟩; subst w'; rw [h1])
    | (go_at_call 47; refine (Pw.ipok_any _ _ _ ps hp (by omega)).mono ?_; rintro e w' ⟨rfl, hB⟩))
  go_ret
  exact ⟨ret_bool HR.out.symm, hB⟩
end Go.Proofs.Ythgjcplkladepaa.Ct
