/-
  A number in a model's text, as the model of the document reads it: plain functions of lists.
-/
import Derived.Test.YtadjedoakenlkaaGreatDoorRmn
namespace Go.Proofs.YtadjedoakenlkaaGreatDoor.Rs
set_option maxRecDepth 20000
open Go.Proofs.YtadjedoakenlkaaGreatDoor.Ma (isDig scan)
set_option linter.unusedVariables false
def dg : List UInt8 → List UInt8
  | [] => []
  | c :: r => if c = 45 then r else c :: r
def sgn (s : List UInt8) : Int := if dg s = s then (scan (dg s) : Int) else -(scan (dg s) : Int)
open Classical in
noncomputable def snum (s : List UInt8) : Option Int := if (1 ≤ (dg s).length ∧ (dg s).length ≤ 11) ∧ (∀ c ∈ dg s, isDig c) ∧ Lib.itoa (sgn s) = s then some (sgn s) else none
theorem snum_no1 {s : List UInt8} (h : ¬ (1 ≤ (dg s).length ∧ (dg s).length ≤ 11)) : snum s = none := if_neg (fun e => h e.1)
theorem snum_no2 {s : List UInt8} (h : ¬ ∀ c ∈ dg s, isDig c) : snum s = none := if_neg (fun e => h e.2.1)
theorem snum_no3 {s : List UInt8} (h : ¬ Lib.itoa (sgn s) = s) : snum s = none := if_neg (fun e => h e.2.2)
theorem snum_yes {s : List UInt8} (h : 1 ≤ (dg s).length ∧ (dg s).length ≤ 11) (h2 : ∀ c ∈ dg s, isDig c) (h3 : Lib.itoa (sgn s) = s) : snum s = some (sgn s) := if_pos ⟨h, h2, h3⟩
theorem snum_back {s : List UInt8} {v : Int} (h : snum s = some v) : Lib.itoa v = s := by
  unfold snum at h
  split at h
  · rename_i e
    injection h with h
    rw [← h]
    exact e.2.2
  · cases h
theorem scan_lt : ∀ (l : List UInt8) (n m : Nat), n < m → l.foldl Ma.step n < m * 10 ^ l.length
  | [], n, m, h => by simpa using h
  | c :: l, n, m, h => by
    have h1 : Ma.step n c < m * 10 := by
      unfold Ma.step
      split <;> omega
    have := scan_lt l (Ma.step n c) (m * 10) h1
    simp only [List.foldl_cons, List.length_cons, Nat.pow_succ]
    rw [show m * (10 ^ l.length * 10) = m * 10 * 10 ^ l.length by rw [Nat.mul_comm (10 ^ l.length) 10, ← Nat.mul_assoc]]
    exact this
theorem pow_mono11 {k : Nat} (h : k ≤ 11) : 10 ^ k ≤ 100000000000 := Nat.pow_le_pow_right (by decide) h
theorem scan_bd (l : List UInt8) (h : l.length ≤ 11) : scan l < 100000000000 := by
  have h1 := scan_lt l 0 1 (by decide)
  have h2 := pow_mono11 h
  unfold scan
  omega
theorem sgn_bd {s : List UInt8} (h : (dg s).length ≤ 11) : -100000000000 < sgn s ∧ sgn s < 100000000000 := by
  have := scan_bd _ h
  unfold sgn
  split <;> omega
theorem dec_len11 (u : Nat) (h : u < 100000000000) : (Lib.decDigits u).length ≤ 11 := by
  have key : ∀ (k u : Nat), u < 10 ^ (k + 1) → (Lib.decDigits u).length ≤ k + 1 := by
    intro k
    induction k with
    | zero => intro u hu; rw [Lib.decDigits, dif_pos (by simpa using hu)]; simp
    | succ k ih =>
      intro u hu
      rw [Lib.decDigits]
      split
      · simp
      · have := ih (u / 10) (by rw [Nat.pow_succ] at hu; omega)
        rw [List.length_append]
        simp
        omega
  exact key 10 u (by simpa using h)
theorem snum_itoa {x : Int} (h : -100000000000 < x ∧ x < 100000000000) : snum (Lib.itoa x) = some x := by
  by_cases hn : x < 0
  · have e : Lib.itoa x = 45 :: Lib.decDigits x.natAbs := by unfold Lib.itoa; rw [if_pos hn]
    have hd : dg (Lib.itoa x) = Lib.decDigits x.natAbs := by rw [e]; simp [dg]
    have hs : sgn (Lib.itoa x) = x := by
      unfold sgn
      rw [hd, if_neg (by rw [e]; intro h; have := congrArg List.length h; simp at this)]
      unfold scan
      rw [Ma.dec_scan]
      omega
    have hl := dec_len11 x.natAbs (by omega)
    have h0 := List.length_pos_iff.2 (Ma.dec_ne x.natAbs)
    rw [snum_yes (by rw [hd]; omega) (by rw [hd]; exact Ma.dec_all _) (by rw [hs]), hs]
  · have e : Lib.itoa x = Lib.decDigits x.toNat := by unfold Lib.itoa; rw [if_neg hn]
    have hd : dg (Lib.itoa x) = Lib.itoa x := by
      rw [e]
      cases hq : Lib.decDigits x.toNat with
      | nil => exact absurd hq (Ma.dec_ne _)
      | cons c r =>
        have := Ma.dec_all x.toNat c (by rw [hq]; simp)
        refine if_neg ?_
        rintro rfl
        unfold isDig at this
        revert this
        decide
    have hs : sgn (Lib.itoa x) = x := by
      unfold sgn
      rw [hd, if_pos rfl, e]
      unfold scan
      rw [Ma.dec_scan]
      omega
    have hl := dec_len11 x.toNat (by omega)
    have h0 := List.length_pos_iff.2 (Ma.dec_ne x.toNat)
    rw [snum_yes (by rw [hd, e]; omega) (by rw [hd, e]; exact Ma.dec_all _) (by rw [hs]), hs]
end Go.Proofs.YtadjedoakenlkaaGreatDoor.Rs
