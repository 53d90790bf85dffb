/-
  Plain lists of bytes: the numeral with a point, what a scan of its digits gives, and what is left of it without the point. No program stands in this text.
-/
import Derived.Lib.ItoaNum
import Derived.Lib.AtoiAllCases
import Derived.Lib.Replace
import Derived.Lib.IndexBytes
import Derived.Lib.CountLaws
namespace Go.Proofs.YtadjedoakenlkaaGreatDoor.Ma
open Go.Lib

def isDig (c : UInt8) : Prop := 48 ≤ c.toNat ∧ c.toNat ≤ 57
def step (n : Nat) (c : UInt8) : Nat := if 48 ≤ c.toNat ∧ c.toNat ≤ 57 then 10 * n + (c.toNat - 48) else n
def scan (l : List UInt8) : Nat := l.foldl step 0

theorem dig_of (k : Nat) (h : k < 10) : (UInt8.ofNat (48 + k)).toNat = 48 + k := by rw [UInt8.toNat_ofNat']; omega
theorem isDig_of (k : Nat) (h : k < 10) : isDig (UInt8.ofNat (48 + k)) := by unfold isDig; rw [dig_of k h]; omega
theorem step_of (n k : Nat) (h : k < 10) : step n (UInt8.ofNat (48 + k)) = 10 * n + k := by
  have hd := isDig_of k h
  unfold isDig at hd
  unfold step; rw [if_pos hd, dig_of k h]; omega

theorem dec_all (u : Nat) : ∀ c ∈ decDigits u, isDig c := by
  induction u using Nat.strongRecOn with
  | _ u ih =>
    rw [decDigits]
    split
    · intro c hc; rw [List.mem_singleton] at hc; subst hc; exact isDig_of u ‹_›
    · intro c hc
      rcases List.mem_append.1 hc with h | h
      · exact ih (u / 10) (by omega) c h
      · rw [List.mem_singleton] at h; subst h; exact isDig_of (u % 10) (by omega)
theorem dec_scan (u : Nat) : (decDigits u).foldl step 0 = u := by
  induction u using Nat.strongRecOn with
  | _ u ih =>
    rw [decDigits]
    split
    · rw [List.foldl_cons, List.foldl_nil, step_of 0 u ‹_›]; omega
    · rw [List.foldl_append, ih (u / 10) (by omega)]
      simp only [List.foldl_cons, List.foldl_nil]
      rw [step_of _ _ (by omega)]; omega
theorem dec_four (r : Nat) (h : r < 1000) : (decDigits (1000 + r)).drop 1 = [UInt8.ofNat (48 + r / 100), UInt8.ofNat (48 + r / 10 % 10), UInt8.ofNat (48 + r % 10)] := by
  rw [decDigits, dif_neg (by omega), decDigits, dif_neg (by omega), decDigits, dif_neg (by omega), decDigits, dif_pos (by omega)]
  simp only [List.cons_append, List.nil_append, List.drop_succ_cons, List.drop_zero]
  rw [show (1000 + r) / 10 / 10 % 10 = r / 100 by omega, show (1000 + r) / 10 % 10 = r / 10 % 10 by omega, show (1000 + r) % 10 = r % 10 by omega]

/-- The numeral of so many thousandths. -/
def pos (y : Nat) : List UInt8 := decDigits (y / 1000) ++ 46 :: (decDigits (1000 + y % 1000)).drop 1
def bare (y : Nat) : List UInt8 := decDigits (y / 1000) ++ (decDigits (1000 + y % 1000)).drop 1

theorem tail_scan (n r : Nat) (h : r < 1000) : ((decDigits (1000 + r)).drop 1).foldl step n = 1000 * n + r := by
  rw [dec_four r h]
  simp only [List.foldl_cons, List.foldl_nil]
  rw [step_of _ _ (by omega), step_of _ _ (by omega), step_of _ _ (by omega)]; omega
theorem tail_all (r : Nat) : ∀ c ∈ (decDigits (1000 + r)).drop 1, isDig c := by
  intro c hc
  exact dec_all (1000 + r) c (List.mem_of_mem_drop hc)
theorem pos_scan (y : Nat) : (pos y).foldl step 0 = y := by
  unfold pos
  rw [List.foldl_append, dec_scan, List.foldl_cons]
  have : step (y / 1000) 46 = y / 1000 := by unfold step; rw [if_neg (by decide)]
  rw [this, tail_scan _ _ (by omega)]; omega
theorem neg_scan (y : Nat) : (45 :: pos y).foldl step 0 = y := by
  rw [List.foldl_cons]
  have : step 0 45 = 0 := by unfold step; rw [if_neg (by decide)]
  rw [this, pos_scan]
theorem bare_scan (y : Nat) : (bare y).foldl step 0 = y := by
  unfold bare
  rw [List.foldl_append, dec_scan, tail_scan _ _ (by omega)]; omega
theorem bare_all (y : Nat) : ∀ c ∈ bare y, isDig c := by
  intro c hc
  rcases List.mem_append.1 hc with h | h
  · exact dec_all _ c h
  · exact tail_all _ c h

theorem step_le (n : Nat) (c : UInt8) : n ≤ step n c := by unfold step; split <;> omega
theorem scan_le : ∀ (l : List UInt8) (n : Nat), n ≤ l.foldl step n
  | [], _ => Nat.le_refl _
  | c :: l, n => Nat.le_trans (step_le n c) (scan_le l _)
theorem parse_ok : ∀ (l : List UInt8) (n : Nat), (∀ c ∈ l, isDig c) → l.foldl step n ≤ 1000000000000000 → parseUint10 n l = .ok (l.foldl step n)
  | [], n, _, _ => rfl
  | c :: l, n, h, hb => by
    have hc : isDig c := h c (by simp)
    unfold isDig at hc
    have e : step n c = n * 10 + (c.toNat - 48) := by unfold step; rw [if_pos hc]; omega
    rw [List.foldl_cons] at hb ⊢
    have h1 := scan_le l (step n c)
    rw [parseUint10, if_pos hc, if_neg (by omega), if_neg (by omega), ← e]
    exact parse_ok l _ (fun c' hc' => h c' (by simp [hc'])) hb
theorem dec_ne (u : Nat) : decDigits u ≠ [] := by
  intro h
  have := decDigits_length u
  rw [h] at this
  have := nDigits_pos u
  simp at *
  omega
theorem bare_ne (y : Nat) : bare y ≠ [] := by
  unfold bare
  intro h
  exact dec_ne _ (List.append_eq_nil_iff.1 h).1
theorem mag_ok (y : Nat) (h : y ≤ 1000000000) : parseMag (bare y) = .ok y := by
  unfold parseMag
  rw [if_neg (bare_ne y), parse_ok _ _ (bare_all y) (by rw [bare_scan]; omega), bare_scan]
theorem atoi_pos (y : Nat) (h : y ≤ 1000000000) : atoiAll (bare y) = .ok (y : Int) := by
  have hm := mag_ok y h
  cases hb : bare y with
  | nil => exact absurd hb (bare_ne y)
  | cons c r =>
    have hc : isDig c := bare_all y c (by rw [hb]; simp)
    unfold isDig at hc
    rw [atoiAll_plain c r (by omega) (by omega), ← hb, hm]
    unfold signless
    simp
    omega
theorem atoi_neg (y : Nat) (h : y ≤ 1000000000) : atoiAll (45 :: bare y) = .ok (-(y : Int)) := by
  rw [atoiAll_minus, mag_ok y h]
  unfold signed
  simp
  omega

/-! ### The point struck -/
theorem index_at (a r : List UInt8) (h : ∀ c ∈ a, c ≠ 46) : index (a ++ 46 :: r) [46] = a.length := by
  induction a with
  | nil => simp [index]
  | cons c a ih =>
    have hc : c ≠ 46 := h c (by simp)
    have := ih (fun c' hc' => h c' (by simp [hc']))
    rw [List.cons_append, index, this]
    rw [if_neg (by simp; intro e; exact hc e.symm), if_neg (by simp)]
    simp
theorem strike (a r : List UInt8) (h : ∀ c ∈ a, c ≠ 46) : replace (a ++ 46 :: r) [46] [] 1 = a ++ r := by
  have hi := index_at a r h
  have hc := count_hit (s := a ++ 46 :: r) (sub := [46]) (by simp) hi
  unfold replace
  rw [if_neg (by decide)]
  have hn : replaceNum (a ++ 46 :: r) [46] 1 = 1 := by
    unfold replaceNum
    rw [if_neg (by omega)]; rfl
  rw [hn, replaceK_hit _ _ 0 _ _ hi]
  simp [replaceK]
theorem dig_ne {c : UInt8} (h : isDig c) : c ≠ 46 := by rintro rfl; unfold isDig at h; revert h; decide
theorem strike_pos (y : Nat) : replace (pos y) [46] [] 1 = bare y := strike _ _ (fun c hc => dig_ne (dec_all _ c hc))
theorem strike_neg (y : Nat) : replace (45 :: pos y) [46] [] 1 = 45 :: bare y := by
  have := strike (45 :: decDigits (y / 1000)) ((decDigits (1000 + y % 1000)).drop 1) (fun c hc => by
    rcases List.mem_cons.1 hc with rfl | h
    · decide
    · exact dig_ne (dec_all _ c h))
  exact this
theorem replaceK_len : ∀ (k : Nat) (s : List UInt8), (replaceK [46] [] k s).length ≤ s.length
  | 0, s => by simp [replaceK]
  | k + 1, s => by
    rw [replaceK]
    split
    · exact Nat.le_refl _
    · have := replaceK_len k (s.drop ((index s [46]).toNat + [(46 : UInt8)].length))
      simp only [List.length_append, List.length_take, List.length_nil, List.length_drop, List.length_cons] at this ⊢
      omega
theorem replace_len (s : List UInt8) : (replace s [46] [] 1).length ≤ s.length := by
  unfold replace
  rw [if_neg (by decide)]
  exact replaceK_len _ _
theorem strike_nil : replace [] [46] [] 1 = [] := by decide +kernel
theorem count_one (s : List UInt8) : count s [46] ≤ s.length + 1 := count_le _ _

theorem pos_len (y : Nat) (h : y ≤ 1000000000) : (pos y).length ≤ 11 := by
  unfold pos
  rw [List.length_append, List.length_cons, dec_four _ (by omega), decDigits_length]
  have : nDigits (y / 1000) ≤ 7 := by
    by_cases hy : y / 1000 = 0
    · rw [hy]; decide +kernel
    · rcases Nat.lt_or_ge (nDigits (y / 1000)) 8 with h | h
      · omega
      · exfalso
        have h7 : ∀ k u, 1 ≤ k → nDigits u = k → u ≠ 0 → 10 ^ (k - 1) ≤ u := by
          intro k
          induction k with
          | zero => intro u hk; omega
          | succ k ih =>
            intro u _ hu h0
            by_cases hlt : u < 10
            · rw [nDigits_small hlt] at hu
              obtain rfl : k = 0 := by omega
              simp; omega
            · rw [nDigits_big hlt] at hu
              have hk1 : 1 ≤ k := by have := nDigits_pos (u / 10); omega
              have := ih (u / 10) hk1 (by omega) (by omega)
              have e : 10 ^ (k + 1 - 1) = 10 ^ (k - 1) * 10 := by rw [← Nat.pow_succ]; congr 1; omega
              rw [e]; omega
        have := h7 _ _ (by omega) rfl hy
        have h8 : 10 ^ 7 ≤ 10 ^ (nDigits (y / 1000) - 1) := Nat.pow_le_pow_right (by omega) (by omega)
        omega
  simp
  omega
end Go.Proofs.YtadjedoakenlkaaGreatDoor.Ma
