/-
  The seeds by themselves: the next seed is a seed; of three seeds in a row not all three are within a million of the greatest; so whoever draws again draws at most three times.
-/
import Derived.Test.YtdcbcacgppffgaaRows
namespace Go.Proofs.Ytdcbcacgppffgaa.Se

def nx (s : Int) : Int := 48271 * s % 2147483647
def Seed (s : Int) : Prop := 1 ≤ s ∧ s ≤ 2147483646
def tk (s : Int) : Int := if 1 ≤ s ∧ s ≤ 2147483646 then s else 1
theorem tk_seed (s : Int) : Seed (tk s) := by unfold tk Seed; split <;> omega
theorem tk_id {s : Int} (h : Seed s) : tk s = s := by unfold tk; exact if_pos h
theorem nx_seed {s : Int} (h : Seed s) : Seed (nx s) := by
  unfold Seed nx at *
  omega

theorem few : ∀ q, q < 23 → ∀ j, j < 22 → 0 < q * 2147483647 / 48271 + j → 48271 * (q * 2147483647 / 48271 + j) % 2147483647 < 1000000 → ¬ 48271 * (48271 * (q * 2147483647 / 48271 + j) % 2147483647) % 2147483647 < 1000000 := by
  decide +kernel
theorem never (e : Nat) (h0 : 0 < e) (h1 : e < 1000000) (h2 : 48271 * e % 2147483647 < 1000000) : ¬ 48271 * (48271 * e % 2147483647) % 2147483647 < 1000000 := by
  have hq : 48271 * e / 2147483647 < 23 := by omega
  have hd := Nat.div_add_mod (48271 * e) 2147483647
  obtain ⟨q, hq'⟩ : ∃ q, 48271 * e / 2147483647 = q := ⟨_, rfl⟩
  rw [hq'] at hq hd
  obtain ⟨j, hj⟩ : ∃ j, e = q * 2147483647 / 48271 + j := ⟨e - q * 2147483647 / 48271, by omega⟩
  have hj' : j < 22 := by omega
  rw [hj] at h0 h2 ⊢
  exact few q hq j hj' h0 h2

theorem nx_of {s : Int} {e : Nat} (h : s = 2147483647 - (e : Int)) (h0 : 0 < e) (h1 : e < 2147483647) : nx s = 2147483647 - ((48271 * e % 2147483647 : Nat) : Int) := by
  subst h
  unfold nx
  omega
theorem thrice {s : Int} (hs : Seed s) (h1 : 2146483647 < nx s) (h2 : 2146483647 < nx (nx s)) : ¬ 2146483647 < nx (nx (nx s)) := by
  have k1 := nx_seed hs
  have k2 := nx_seed k1
  unfold Seed at k1 k2
  obtain ⟨e, he⟩ : ∃ e : Nat, nx s = 2147483647 - (e : Int) := ⟨(2147483647 - nx s).toNat, by omega⟩
  have e2 := nx_of he (by omega) (by omega)
  have e3 := nx_of e2 (by omega) (by omega)
  rw [e3]
  have := never e (by omega) (by omega) (by omega)
  omega

def draw : Nat → Int → Int → Int
  | 0, _, s => s
  | k + 1, top, s => if nx s - 1 < top then nx s else draw k top (nx s)
/-- The seed that comes of drawing again and again until it is, less 1, below top. -/
def sd (top s : Int) : Int := draw 3 top s
theorem sd_here {top s : Int} (h : nx s - 1 < top) : sd top s = nx s := by unfold sd draw; exact if_pos h
theorem draw_succ (k : Nat) (top s : Int) : draw (k + 1) top s = if nx s - 1 < top then nx s else draw k top (nx s) := rfl
theorem sd_again {top s : Int} (hs : Seed s) (ht : 2146483647 ≤ top) (h : ¬ nx s - 1 < top) : sd top s = sd top (nx s) := by
  unfold sd
  rw [draw_succ 2 top s, if_neg h, draw_succ 1 top (nx s), draw_succ 2 top (nx s)]
  split
  · rfl
  · rename_i h2
    rw [draw_succ 0 top (nx (nx s)), draw_succ 1 top (nx (nx s))]
    split
    · rfl
    · rename_i h3
      exact absurd (show 2146483647 < nx (nx (nx s)) by omega) (thrice hs (by omega) (by omega))
theorem sd_seed {top s : Int} (hs : Seed s) : Seed (sd top s) := by
  unfold sd
  have : ∀ k s, Seed s → Seed (draw k top s) := by
    intro k
    induction k with
    | zero => intro s h; exact h
    | succ k ih =>
      intro s h
      unfold draw
      split
      · exact nx_seed h
      · exact ih _ (nx_seed h)
  exact this 3 s hs
theorem sd_lt {top s : Int} (hs : Seed s) (ht : 2146483647 ≤ top) : sd top s - 1 < top := by
  unfold sd
  unfold draw
  split
  · assumption
  · unfold draw
    split
    · assumption
    · unfold draw
      split
      · assumption
      · have := thrice hs (by omega) (by omega)
        omega
/-- How many seeds are passed over at most. -/
def ms (s : Int) : Nat := if 2146483647 < nx s then (if 2146483647 < nx (nx s) then 2 else 1) else 0
theorem ms_less {s : Int} (hs : Seed s) (h : 2146483647 < nx s) : ms (nx s) < ms s := by
  unfold ms
  rw [if_pos h]
  split
  · rename_i h2
    rw [if_neg (thrice hs h h2)]
    decide
  · decide
def ms1 (s : Int) : Nat := if 2146483647 < s then 1 + ms s else 0
theorem ms1_less {s : Int} (hs : Seed s) (h : 2146483647 < s) : ms1 (nx s) < ms1 s := by
  unfold ms1
  rw [if_pos h]
  split
  · rename_i h2
    have := ms_less hs h2
    omega
  · omega
/-- What is still to be drawn behind the seed x that came. -/
def sd1 (top x : Int) : Int := if x - 1 < top then x else sd top x
theorem sd1_nx {top s : Int} (hs : Seed s) (ht : 2146483647 ≤ top) : sd1 top (nx s) = sd top s := by
  unfold sd1
  split
  · rename_i h
    exact (sd_here h).symm
  · rename_i h
    exact (sd_again hs ht h).symm
theorem sd1_no {top x : Int} (h : ¬ x - 1 < top) : sd1 top x = sd top x := if_neg h
theorem sd1_yes {top x : Int} (h : x - 1 < top) : sd1 top x = x := if_pos h
def top (n : Int) : Int := 2147483646 / n * n
theorem top_bd {n : Int} (h1 : 1 ≤ n) (h2 : n ≤ 1000000) : 2146483647 ≤ top n ∧ top n ≤ 2147483646 := by
  unfold top
  have h := Int.emod_add_mul_ediv 2147483646 n
  have h3 := Int.emod_nonneg 2147483646 (show n ≠ 0 by omega)
  have h4 := Int.emod_lt_of_pos 2147483646 (show 0 < n by omega)
  rw [Int.mul_comm] at h
  omega
end Go.Proofs.Ytdcbcacgppffgaa.Se
