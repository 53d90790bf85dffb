/-
  Folds of the program and of the model.
-/
import Derived.Test.YtdcbcacgppffgaaApI
import Derived.Deep.RegionWith
import Derived.Deep.RegionLaw
namespace Go.Proofs.Ytdcbcacgppffgaa.Fo
open Go.RowKit
open Go.Proofs.Ytdcbcacgppffgaa.Ai
open Go.Proofs.Ytdcbcacgppffgaa.Li
set_option linter.unusedVariables false

def cyc (n k : Nat) : List Int := (List.range n).map fun i => ((i % k : Nat) : Int)
theorem cyc_len (n k : Nat) : (cyc n k).length = n := by simp [cyc]
theorem cyc_get (n k j : Nat) (h : j < (cyc n k).length) : (cyc n k)[j] = ((j % k : Nat) : Int) := by simp [cyc]
theorem cyc_take (n k j : Nat) (h : j < n) : (cyc n k).take (j + 1) = (cyc n k).take j ++ [((j % k : Nat) : Int)] := by
  rw [List.take_succ_eq_append_getElem (by rw [cyc_len]; exact h), cyc_get]
def fok (n k : Int) : Bool := btw n 0 40 && btw k 1 10
def folds (n k : Int) : List Int := if fok n k then cyc n.toNat k.toNat else []
theorem folds_yes {n k : Int} (h : fok n k = true) : folds n k = cyc n.toNat k.toNat := by unfold folds; rw [if_pos h]
theorem folds_no {n k : Int} (h : fok n k = false) : folds n k = [] := by unfold folds; rw [h]; simp
theorem folds_len (n k : Int) : (folds n k).length ≤ 40 := by
  cases h : fok n k
  · rw [folds_no h]; simp
  · rw [folds_yes h, cyc_len]
    have : (0 ≤ n ∧ n ≤ 40) ∧ 1 ≤ k ∧ k ≤ 10 := by unfold fok btw at h; simpa using h
    omega
theorem wrap_id (n : Int) (h : -9223372036854775808 ≤ n) (h' : n ≤ 9223372036854775807) : IntKind.i64.wrap n = n := by rw [IntKind.wrap_i64]; omega
theorem tmod_nat (a b : Nat) : (a : Int).tmod (b : Int) = ((a % b : Nat) : Int) := by rw [Int.tmod_eq_emod_of_nonneg (by omega)]; simp
set_option maxHeartbeats 2000000 in
theorem ifolds (w : World) (n k : Int) (hn : -9223372036854775808 ≤ n ∧ n ≤ 9223372036854775807) (hk : -9223372036854775808 ≤ k ∧ k ≤ 9223372036854775807) :
    Calls Try.prog 15 #[.int .i64 n, .int .i64 k] w fun e w' => ∃ v, e = .returned v ∧ Own w' w.heap.size v (folds n k) ∧ Below w.heap.size w w' := by
  cases hf : fok n k
  · rw [folds_no hf]
    have hc : n < 0 ∨ (¬ n < 0 ∧ 40 < n) ∨ (¬ n < 0 ∧ ¬ 40 < n ∧ k < 1) ∨ (¬ n < 0 ∧ ¬ 40 < n ∧ ¬ k < 1 ∧ 10 < k) := by
      have : ¬ ((0 ≤ n ∧ n ≤ 40) ∧ 1 ≤ k ∧ k ≤ 10) := by intro h; rw [show fok n k = true by unfold fok btw; simpa using h] at hf; cases hf
      omega
    clear hf
    rcases hc with h1 | ⟨h1, h2⟩ | ⟨h1, h2, h3⟩ | ⟨h1, h2, h3, h4⟩
    · go_enter Try.func15, Try.ntmps15
      go_wp2
      go_ret
      exact ⟨_, rfl, Own.nil _ _, Below.refl _ _⟩
    · have d1 : decide (n < 0) = false := by simpa using h1
      go_enter Try.func15, Try.ntmps15
      go_wp2
      go_ret
      exact ⟨_, rfl, Own.nil _ _, Below.refl _ _⟩
    · have d1 : decide (n < 0) = false := by simpa using h1
      have d2 : decide (40 < n) = false := by simpa using h2
      go_enter Try.func15, Try.ntmps15
      go_wp2
      go_ret
      exact ⟨_, rfl, Own.nil _ _, Below.refl _ _⟩
    · have d1 : decide (n < 0) = false := by simpa using h1
      have d2 : decide (40 < n) = false := by simpa using h2
      have d3 : decide (k < 1) = false := by simpa using h3
      go_enter Try.func15, Try.ntmps15
      go_wp2
      go_ret
      exact ⟨_, rfl, Own.nil _ _, Below.refl _ _⟩
  rw [folds_yes hf]
  have hc : (0 ≤ n ∧ n ≤ 40) ∧ 1 ≤ k ∧ k ≤ 10 := by unfold fok btw at hf; simpa using hf
  clear hf
  obtain ⟨⟨n0, n1⟩, k0, k1⟩ := hc
  obtain ⟨n', rfl⟩ := Int.eq_ofNat_of_zero_le n0
  obtain ⟨k', rfl⟩ := Int.eq_ofNat_of_zero_le (show (0 : Int) ≤ k by omega)
  rw [Int.toNat_natCast, Int.toNat_natCast]
  have HG : Hid ((cyc n' k').length = n') := cyc_len _ _
  have HT : Hid (∀ j (h : j < (cyc n' k').length), (cyc n' k')[j] = ((j % k' : Nat) : Int)) := fun j h => cyc_get n' k' j h
  obtain ⟨zs, hzs⟩ : ∃ zs, cyc n' k' = zs := ⟨_, rfl⟩
  rw [hzs] at HG HT ⊢
  clear hzs
  have hkne : ¬ (k' : Int) = 0 := by omega
  have d1 : decide ((n' : Int) < 0) = false := decide_eq_false (by omega)
  have d2 : decide (40 < (n' : Int)) = false := by simp; omega
  have d3 : decide ((k' : Int) < 1) = false := by simp; omega
  have d4 : decide (10 < (k' : Int)) = false := by simp; omega
  obtain ⟨i0, hi, hz0, hz1, hz2⟩ := info_parts info_int
  go_enter Try.func15, Try.ntmps15
  go_wp2_with (at_make; refine wpList_make_full _ rfl _ _ 24 rfl w.heap.size 3 i0 (.int .i64 0) 1 Try.underlying24 hi hz0 hz1 _ _ _ _ n' rfl rfl (by omega) (by omega) (by rw [hz2]; omega) (by unfold maxLen; omega) (Nat.le_refl _) ?_; intro w1 hown hgrow)
  have hown' := own_made hown
  have hB1 := below_none hgrow
  clear hown hgrow
  go_loopw [25] (fun i wr => ∃ j : Nat, j ≤ n' ∧ i = .int .i64 j ∧ ∃ l : List Int, l.length = n' ∧ Like l zs j ∧ Own wr w.heap.size (.slice (some ⟨w.heap.size, 0, none⟩) n' n') l ∧ Below w.heap.size w wr) (fun i _ => n' - (intOf i).toNat)
  case atStart => exact ⟨0, Nat.zero_le _, rfl, _, by simp, fun j hj => by omega, hown', hB1⟩
  case round =>
    obtain ⟨j, hj, rfl, l, hll, hlike, hown, hB⟩ := hrel
    by_cases hlt : j < n'
    · obtain ⟨cv, hcl⟩ : ∃ cv, wr.cell? ⟨w.heap.size, j, none⟩ = some cv := ⟨_, hown.cell hll j (by omega)⟩
      have hcf := hown.frozen hll j
      have HO : Hid (Own wr w.heap.size (.slice (some ⟨w.heap.size, 0, none⟩) n' n') l) := hown
      have HN : Hid (l.length = n') := hll
      have hzk : j < zs.length := by rw [HG.out]; exact hlt
      have HK : Hid (Like (l.set j ((j % k' : Nat) : Int)) zs (j + 1)) := by
        have := like_set hlike hzk (by rw [HG.out]; exact hll)
        rwa [HT.out j hzk] at this
      have ht : (j : Int).tmod (k' : Int) = ((j % k' : Nat) : Int) := tmod_nat _ _
      have ht2 : j % k' < 10 := by have := Nat.mod_lt j (show 0 < k' by omega); omega
      obtain ⟨r, hr⟩ : ∃ r, j % k' = r := ⟨_, rfl⟩
      rw [hr] at ht HK ht2
      clear hown hlike hzk hll hr
      go_wp2
      go_roundw
      case rel => exact ⟨j + 1, by omega, by go_num, l.set j (r : Int), by simpa using HN.out, HK.out, by first | exact HO.out.set HN.out j _ | (have := HO.out.set HN.out j (r : Int); simpa using this), hB.setCell (p := ⟨w.heap.size, j, none⟩) (Nat.le_refl _) _⟩
      case measure => simp [intOf]; omega
    · obtain rfl : j = n' := by omega
      obtain rfl := like_all (xs := zs) (by rw [HG.out]; exact hlike) (by rw [HG.out]; exact hll)
      go_wp2
      go_ret
      exact ⟨_, rfl, hown, hB⟩
set_option maxHeartbeats 2000000 in
theorem sfolds (w : World) (n k : Int) (hn : -9223372036854775808 ≤ n ∧ n ≤ 9223372036854775807) (hk : -9223372036854775808 ≤ k ∧ k ≤ 9223372036854775807) :
    Calls Try.prog 16 #[.int .i64 n, .int .i64 k] w fun e w' => ∃ v, e = .returned v ∧ Own w' w.heap.size v (folds n k) ∧ Below w.heap.size w w' := by
  cases hb1 : btw n 0 40
  · have hf : fok n k = false := by unfold fok; rw [hb1]; rfl
    rw [folds_no hf]
    clear hf
    go_enter Try.func16, Try.ntmps16
    go_wp2_with (go_at_call 25; refine (between_any _ _ _ _).mono ?_; rintro e w5 ⟨rfl, hw5⟩; subst w5; rw [hb1])
    go_ret
    exact ⟨_, rfl, own_empty _ _ (Nat.le_refl _), (Below.refl _ _).alloc (Nat.le_refl _) _⟩
  cases hb2 : btw k 1 10
  · have hf : fok n k = false := by unfold fok; rw [hb1, hb2]; rfl
    rw [folds_no hf]
    clear hf
    go_enter Try.func16, Try.ntmps16
    go_wp2_with (first
      | (go_at_call_of 25 (Value.int .i64 0); refine (between_any _ _ _ _).mono ?_; rintro e w5 ⟨rfl, hw5⟩; subst w5; rw [hb1])
      | (go_at_call 25; refine (between_any _ _ _ _).mono ?_; rintro e w5 ⟨rfl, hw5⟩; subst w5; first | rw [hb1] | rw [hb2]))
    go_ret
    exact ⟨_, rfl, own_empty _ _ (Nat.le_refl _), (Below.refl _ _).alloc (Nat.le_refl _) _⟩
  have hf : fok n k = true := by unfold fok; rw [hb1, hb2]; rfl
  rw [folds_yes hf]
  have HB1 : Hid (btw n 0 40 = true) := hb1
  have HB2 : Hid (btw k 1 10 = true) := hb2
  have hc : (0 ≤ n ∧ n ≤ 40) ∧ 1 ≤ k ∧ k ≤ 10 := by unfold fok btw at hf; simpa using hf
  clear hf hb1 hb2
  obtain ⟨⟨n0, n1⟩, k0, k1⟩ := hc
  obtain ⟨n', rfl⟩ := Int.eq_ofNat_of_zero_le n0
  obtain ⟨k', rfl⟩ := Int.eq_ofNat_of_zero_le (show (0 : Int) ≤ k by omega)
  rw [Int.toNat_natCast, Int.toNat_natCast]
  have HG : Hid ((cyc n' k').length = n') := cyc_len _ _
  have HT : Hid (∀ j, j < n' → (cyc n' k').take (j + 1) = (cyc n' k').take j ++ [((j % k' : Nat) : Int)]) := fun j h => cyc_take n' k' j h
  obtain ⟨zs, hzs⟩ : ∃ zs, cyc n' k' = zs := ⟨_, rfl⟩
  rw [hzs] at HG HT ⊢
  clear hzs
  have hkne : ¬ (k' : Int) = 0 := by omega
  obtain ⟨i0, hi, hz0, hz1, hz2⟩ := info_parts info_int
  go_enter Try.func16, Try.ntmps16
  go_wp2_with (go_at_call 25; refine (between_any _ _ _ _).mono ?_; rintro e w5 ⟨rfl, hw5⟩; subst w5; first | rw [HB1.out] | rw [HB2.out])
  go_loopw [5, 6] (fun v i wr => ∃ j : Nat, j ≤ n' ∧ i = .int .i64 j ∧ ∃ m : List Int, m = zs.take j ∧ Own wr w.heap.size v m ∧ Below w.heap.size w wr) (fun _ i _ => n' - (intOf i).toNat)
  case atStart => exact ⟨0, Nat.zero_le _, rfl, [], by simp, own_empty _ _ (Nat.le_refl _), (Below.refl _ _).alloc (Nat.le_refl _) _⟩
  case round =>
    obtain ⟨j, hj, rfl, m, hm, hown, hB⟩ := hrel
    have HM : Hid (m = zs.take j) := hm
    have HML : Hid (m.length = j) := by show _ = _; rw [hm]; simp; have := HG.out; omega
    clear hm
    by_cases hlt : j < n'
    · have hs := hB.size
      have HR : Hid (zs.take (j + 1) = zs.take j ++ [((j % k' : Nat) : Int)]) := HT.out j hlt
      have ht : (j : Int).tmod (k' : Int) = ((j % k' : Nat) : Int) := tmod_nat _ _
      have ht2 : j % k' < 10 := by have := Nat.mod_lt j (show 0 < k' by omega); omega
      obtain ⟨r, hr⟩ : ∃ r, j % k' = r := ⟨_, rfl⟩
      rw [hr] at ht HR ht2
      clear hr
      go_wp2_with (at_builtin; refine wpList_append_own _ rfl _ _ 24 rfl w.heap.size 3 i0 (.int .i64 0) 1 8 Try.underlying24 hi hz0 hz1 hz2 rfl (by decide) _ m.length (iv m) rfl (World.ownsRow.alloc hown _) ⟨wr.heap.size, 0, none⟩ 1 1 [.int .i64 r] rfl rfl (one_cell _ _ _) (one_one _) (by have := HML.out; unfold maxLen; omega) (by have := HML.out; omega) (by simp; omega) ?_)
      intro v' w6 hown' hgrow hnn
      clear hnn
      have ho6 := own_snoc rfl hown'
      have hB6 : Below w.heap.size w w6 := below_app (hB.alloc hB.size _) (by have := hB.size; simp; omega) hgrow (fun k hk => (hown.ge k hk).1)
      clear hown' hgrow hown hB
      go_wp2
      go_roundw
      case rel => exact ⟨j + 1, by omega, by go_num, _, by rw [HR.out, HM.out], ho6, hB6⟩
      case measure => simp [intOf]; omega
    · obtain rfl : j = n' := by omega
      have HR : Hid (zs = m) := by show _ = _; rw [HM.out, List.take_of_length_le (by have := HG.out; omega)]
      go_wp2
      go_ret
      exact ⟨_, rfl, by rw [HR.out]; exact hown, hB⟩
end Go.Proofs.Ytdcbcacgppffgaa.Fo
