/-
  Lists of lists as the laws copy them, mark them and look whether the marks are held.
-/
import Derived.Test.YtmfippeclkmhnaaSeN
namespace Go.Proofs.Ytmfippeclkmhnaa.Sv
open Go.RowKit
open Go.Proofs.Ytmfippeclkmhnaa.Li (iv ret_bool ret_int below_none IsL marks marks_length marks_get Like)
open Go.Proofs.Ytmfippeclkmhnaa.Tb (sub sub_yes sub_no)
set_option linter.unusedVariables false

/-- As far as k the cells xs are lists of their own, each in a later block. -/
def NestV (w : World) (lo : Nat) (V : Nat → Value) (bl : Nat → Nat) (cs : List Value) (xs : List (List Int)) (k : Nat) : Prop :=
  (∀ i (hi : i < xs.length), i < k → cs[i]? = some (V i) ∧ OwI w (fun q => q = bl i) (V i) xs[i] ∧ lo < bl i ∧ bl i < w.heap.size) ∧ ∀ i j, i < j → j < k → bl i < bl j
theorem NestV.below {w w1 : World} {lo k : Nat} {V : Nat → Value} {bl : Nat → Nat} {cs : List Value} {xs : List (List Int)} (h : NestV w lo V bl cs xs k) (hb : Below w.heap.size w w1) : NestV w1 lo V bl cs xs k := by
  refine ⟨fun i hi hik => ?_, h.2⟩
  obtain ⟨h1, h2, h3, h4⟩ := h.1 i hi hik
  exact ⟨h1, h2.below hb, h3, Nat.lt_of_lt_of_le h4 hb.size⟩
theorem nestV_step {w : World} {lo g b k : Nat} {V : Nat → Value} {bl : Nat → Nat} {cs : List Value} {xs : List (List Int)} {u : Value} (h : NestV w lo V bl cs xs k) (hk : k < xs.length) (hcl : cs.length = xs.length) (hg : g = lo)
    (ho : OwI w (fun q => q = b) u xs[k]) (hb : lo < b) (hb' : b < w.heap.size) (hlt : ∀ i, i < k → bl i < b) :
    NestV (w.setCell ⟨g, k, none⟩ u) lo (fun i => if i = k then u else V i) (fun i => if i = k then b else bl i) (cs.set k u) xs (k + 1) := by
  have hfr : Fr (fun q => q = lo) w (w.setCell ⟨g, k, none⟩ u) := fr_grown (Li.grown_set _ _ _ _) hg
  refine ⟨fun i hi hik => ?_, fun i j hij hjk => ?_⟩
  · by_cases e : i = k
    · subst e
      simp only [if_true]
      refine ⟨by simp [hcl, hk], ho.fr hfr (fun q e => by omega), hb, by simpa [World.setCell] using hb'⟩
    · obtain ⟨h1, h2, h3, h4⟩ := h.1 i hi (by omega)
      simp only [e, if_false]
      refine ⟨by rw [List.getElem?_set_ne (by omega)]; exact h1, h2.fr hfr (fun q e => by omega), h3, by simpa [World.setCell] using h4⟩
  · by_cases e : j = k
    · subst e
      simp only [show ¬ i = j by omega, if_false, if_true]
      exact hlt i hij
    · simp only [show ¬ i = k by omega, e, if_false]
      exact h.2 i j hij (by omega)
theorem nestV_own {w : World} {lo base cap : Nat} {V : Nat → Value} {bl : Nat → Nat} {cs : List Value} {xs : List (List Int)} (h : NestV w lo V bl cs xs xs.length) (hown : w.ownsRow base 50 1 (.slice (some ⟨lo, 0, none⟩) xs.length cap) xs.length cs) :
    OwV w (fun q => lo ≤ q ∧ q < w.heap.size) (.slice (some ⟨lo, 0, none⟩) xs.length cap) xs := by
  have hlt := (World.ownsRow.lt hown lo rfl).2
  refine ⟨_, cap, rfl, .inr ⟨lo, 0, V, bl, rfl, ⟨Nat.le_refl _, hlt⟩, hlt, fun j hj => ?_, fun j hj => ?_, fun i j hi hj hij => ?_⟩⟩
  · obtain ⟨h1, h2, _⟩ := h.1 j hj hj
    refine ⟨?_, h2⟩
    rw [Nat.zero_add, World.ownsRow.cellAt hown j (by omega), h1]
  · obtain ⟨_, _, h3, h4⟩ := h.1 j hj hj
    exact ⟨⟨by omega, h4⟩, by omega⟩
  · rcases Nat.lt_or_gt_of_ne hij with h1 | h1
    · have := h.2 i j h1 hj; omega
    · have := h.2 j i h1 hi; omega
/-- Marks of lists of lists. -/
def vmarks (k : Int) : List (List Int) → List (List Int)
  | [] => []
  | x :: xs => marks k x.length :: vmarks (k + x.length) xs
theorem vmarks_length (k : Int) (xs : List (List Int)) : (vmarks k xs).length = xs.length := by
  induction xs generalizing k with
  | nil => rfl
  | cons x xs ih => simp [vmarks, ih]
theorem vmarks_get (k : Int) (xs : List (List Int)) (j : Nat) (h : j < xs.length) (h' : j < (vmarks k xs).length) : (vmarks k xs)[j] = marks (k + tot (xs.take j)) xs[j].length := by
  induction xs generalizing k j with
  | nil => simp at h
  | cons x xs ih =>
    cases j with
    | zero => simp [vmarks, tot]
    | succ j =>
      simp only [vmarks, List.getElem_cons_succ, List.take_succ_cons, tot]
      rw [ih (k + x.length) j (by simpa using h)]
      congr 1
      omega
theorem tot_vmarks (k : Int) (xs : List (List Int)) : tot (vmarks k xs) = tot xs := by
  induction xs generalizing k with
  | nil => rfl
  | cons x xs ih => simp [vmarks, tot, marks_length, ih]
/-- As far as k marked. -/
def mixed (q : Int) (xs : List (List Int)) (k i : Nat) (h : i < xs.length) : List Int := if i < k then marks (q + tot (xs.take i)) xs[i].length else xs[i]
theorem mixed_length (q : Int) (xs : List (List Int)) (k i : Nat) (h : i < xs.length) : (mixed q xs k i h).length = xs[i].length := by
  unfold mixed; split
  · exact marks_length _ _
  · rfl
end Go.Proofs.Ytmfippeclkmhnaa.Sv
