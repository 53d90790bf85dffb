/-
  A row read part by part: how far it is (plain lists).
-/
import Derived.Test.YtajfldjhbgilmaaGreatDoorRdS
namespace Go.Proofs.YtajfldjhbgilmaaGreatDoor.Sp
set_option maxRecDepth 100000
open Go.RowKit
open Go.Proofs.YtajfldjhbgilmaaGreatDoor.Tb
open Go.Proofs.YtajfldjhbgilmaaGreatDoor.Tk

/-- The parts ahead of j were right; the row's numbers and words so far. -/
def Mid (N C : Nat) (ps : List ByteArray) (j : Nat) (nums : List Int) (cats : List ByteArray) : Prop :=
  ps.length = N + C + 1 ∧ (ps.take (min j N)).all Pc.tx = true ∧ ((ps.drop N).take (j - N)).all wok = true ∧ nums = (ps.take (min j N)).map Pc.val ∧ cats = (ps.drop N).take (j - N)
theorem mid_zero {N C : Nat} {ps : List ByteArray} (h : ps.length = N + C + 1) : Mid N C ps 0 [] [] := ⟨h, by simp, by simp, by simp, by simp⟩
theorem mid_num {N C : Nat} {ps : List ByteArray} {j : Nat} {nums : List Int} {cats : List ByteArray} (h : Mid N C ps j nums cats) (hj : j < N) (hp : j < ps.length) (ht : Pc.tx ps[j] = true) : Mid N C ps (j + 1) (nums ++ [Pc.val ps[j]]) cats := by
  obtain ⟨h1, h2, h3, h4, h5⟩ := h
  have e1 : min j N = j := by omega
  have e2 : min (j + 1) N = j + 1 := by omega
  have e3 : j - N = 0 := by omega
  have e4 : j + 1 - N = 0 := by omega
  rw [e1] at h2 h4
  rw [e3] at h3 h5
  refine ⟨h1, ?_, by rw [e4]; simp, ?_, by rw [e4, h5]⟩
  · rw [e2, List.take_add_one, List.all_append, h2, List.getElem?_eq_getElem hp]; simp [ht]
  · rw [e2, List.take_add_one, List.map_append, h4, List.getElem?_eq_getElem hp]; simp
theorem bad_num {N C : Nat} {ps : List ByteArray} {j : Nat} {nums : List Int} {cats : List ByteArray} (h : Mid N C ps j nums cats) (hj : j < N) (hp : j < ps.length) (ht : Pc.tx ps[j] = false) : (Pc.rread N C ps).1 = 4 := by
  unfold Pc.rread
  rw [if_pos h.1, if_neg (by rw [pre_no Pc.tx (ps.take N) j (by rw [List.length_take]; omega) (by simpa using ht)]; simp)]
theorem mid_all {N C : Nat} {ps : List ByteArray} {j : Nat} {nums : List Int} {cats : List ByteArray} (h : Mid N C ps j nums cats) (hj : N ≤ j) : (ps.take N).all Pc.tx = true ∧ nums = (ps.take N).map Pc.val := by
  obtain ⟨_, h2, _, h4, _⟩ := h
  have e1 : min j N = N := by omega
  rw [e1] at h2 h4
  exact ⟨h2, h4⟩
theorem mid_word {N C : Nat} {ps : List ByteArray} {j : Nat} {nums : List Int} {cats : List ByteArray} (h : Mid N C ps j nums cats) (hj : N ≤ j) (hp : j < ps.length) (ht : wok ps[j] = true) : Mid N C ps (j + 1) nums (cats ++ [ps[j]]) := by
  obtain ⟨h1, h2, h3, h4, h5⟩ := h
  have e1 : min j N = N := by omega
  have e2 : min (j + 1) N = N := by omega
  have e3 : j + 1 - N = (j - N) + 1 := by omega
  have e4 : (ps.drop N)[j - N]? = some ps[j] := by rw [List.getElem?_drop, show N + (j - N) = j by omega, List.getElem?_eq_getElem hp]
  rw [e1] at h2 h4
  refine ⟨h1, by rw [e2]; exact h2, ?_, by rw [e2]; exact h4, ?_⟩
  · rw [e3, List.take_add_one, List.all_append, h3, e4]; simp [ht]
  · rw [e3, List.take_add_one, e4, h5]; simp
theorem bad_word {N C : Nat} {ps : List ByteArray} {j : Nat} {nums : List Int} {cats : List ByteArray} (h : Mid N C ps j nums cats) (hj : N ≤ j) (hjc : j < N + C) (hp : j < ps.length) (ht : wok ps[j] = false) : (Pc.rread N C ps).1 = 5 := by
  have e4 : ((ps.drop N).take C)[j - N]? = some ps[j] := by rw [List.getElem?_take_of_lt (by omega), List.getElem?_drop, show N + (j - N) = j by omega, List.getElem?_eq_getElem hp]
  obtain ⟨hl, e5⟩ := List.getElem?_eq_some_iff.1 e4
  unfold Pc.rread
  rw [if_pos h.1, if_pos (mid_all h hj).1, if_neg (by rw [pre_no wok ((ps.drop N).take C) (j - N) hl (by rw [e5]; exact ht)]; simp)]
theorem last {N C : Nat} {ps : List ByteArray} {nums : List Int} {cats : List ByteArray} (h : Mid N C ps (N + C) nums cats) (hp : N + C < ps.length) :
    Pc.rread N C ps = if Pc.lb ps[N + C] = true then (0, ⟨nums, cats, Pc.val ps[N + C]⟩) else (6, Pc.rzero) := by
  have ha := mid_all h (by omega)
  obtain ⟨h1, _, h3, _, h5⟩ := h
  rw [show N + C - N = C by omega] at h3 h5
  have e : ps.getD (N + C) ⟨#[]⟩ = ps[N + C] := by rw [List.getD_eq_getElem?_getD, List.getElem?_eq_getElem hp]; rfl
  unfold Pc.rread
  rw [if_pos h1, if_pos ha.1, if_pos h3, e, ha.2, h5]
end Go.Proofs.YtajfldjhbgilmaaGreatDoor.Sp
