/-
  Orders by themselves: what it is to be PermOk, the inverse, a list mixed through an order; the inverse puts back.
-/
import Derived.Test.YtdcbcacgppffgaaRows
namespace Go.Proofs.Ytdcbcacgppffgaa.Pe

/-- The first i numbers are in range and no two of them alike. -/
def Gd (xs : List Int) (i : Nat) : Prop := ∀ j (hj : j < xs.length), j < i → 0 ≤ xs[j] ∧ xs[j] < (xs.length : Int) ∧ ∀ k (hk : k < j), ¬ xs[k] = xs[j]
def POk (xs : List Int) : Prop := xs.length ≤ 60 ∧ Gd xs xs.length
noncomputable def pok (xs : List Int) : Bool := @decide (POk xs) (Classical.propDecidable _)
theorem pok_true {xs : List Int} (h : POk xs) : pok xs = true := by simp [pok, h]
theorem pok_false {xs : List Int} (h : ¬ POk xs) : pok xs = false := by simp [pok, h]
theorem pok_iff {xs : List Int} : pok xs = true ↔ POk xs := by simp [pok]
theorem good_zero (xs : List Int) : Gd xs 0 := fun _ _ h => by omega
theorem good_succ {xs : List Int} {i : Nat} (h : Gd xs i) (hi : i < xs.length) (h0 : 0 ≤ xs[i]) (h1 : xs[i] < (xs.length : Int)) (h2 : ∀ k (hk : k < i), ¬ xs[k] = xs[i]) : Gd xs (i + 1) := by
  intro j hj hj'
  by_cases e : j = i
  · subst e; exact ⟨h0, h1, h2⟩
  · exact h j hj (by omega)
theorem pok_all {xs : List Int} (hl : xs.length ≤ 60) (h : Gd xs xs.length) : pok xs = true := pok_true ⟨hl, h⟩
theorem pok_long {xs : List Int} (hl : ¬ xs.length ≤ 60) : pok xs = false := pok_false fun h => hl h.1
theorem pok_range {xs : List Int} {i : Nat} (hi : i < xs.length) (h : ¬ (0 ≤ xs[i] ∧ xs[i] < (xs.length : Int))) : pok xs = false :=
  pok_false fun hp => h ⟨(hp.2 i hi hi).1, (hp.2 i hi hi).2.1⟩
theorem pok_twice {xs : List Int} {i k : Nat} (hi : i < xs.length) (hk : k < i) (h : xs[k] = xs[i]) : pok xs = false :=
  pok_false fun hp => (hp.2 i hi hi).2.2 k hk h
theorem POk.rng {xs : List Int} (h : POk xs) (j : Nat) (hj : j < xs.length) : 0 ≤ xs[j] ∧ xs[j] < (xs.length : Int) := ⟨(h.2 j hj hj).1, (h.2 j hj hj).2.1⟩
theorem POk.inj {xs : List Int} (h : POk xs) (i j : Nat) (hi : i < xs.length) (hj : j < xs.length) (e : xs[i] = xs[j]) : i = j := by
  rcases Nat.lt_trichotomy i j with hlt | rfl | hlt
  · exact absurd e ((h.2 j hj hj).2.2 i hlt)
  · rfl
  · exact absurd e.symm ((h.2 i hi hi).2.2 j hlt)
theorem pok_of {xs : List Int} (hl : xs.length ≤ 60) (hr : ∀ j (hj : j < xs.length), 0 ≤ xs[j] ∧ xs[j] < (xs.length : Int)) (hi : ∀ i j (hi : i < xs.length) (hj : j < xs.length), xs[i] = xs[j] → i = j) : POk xs :=
  ⟨hl, fun j hj _ => ⟨(hr j hj).1, (hr j hj).2, fun k hk e => by have := hi k j (by omega) hj e; omega⟩⟩

/-- No more numbers than places. -/
theorem few_of : ∀ (n : Nat) (l : List Nat), l.Nodup → (∀ x ∈ l, x < n) → l.length ≤ n
  | 0, l, _, h => by
    cases l with
    | nil => simp
    | cons a r => exact absurd (h a (by simp)) (by omega)
  | n + 1, l, hd, h => by
    have := few_of n (l.erase n) (hd.erase n) (fun x hx => by
      have h1 := (List.Nodup.mem_erase_iff hd).1 hx
      have h2 := h x h1.2
      have := h1.1
      omega)
    rw [List.length_erase] at this
    split at this <;> omega
theorem POk.nat {xs : List Int} (h : POk xs) : (xs.map Int.toNat).Nodup ∧ ∀ x ∈ xs.map Int.toNat, x < xs.length := by
  constructor
  · unfold List.Nodup
    rw [List.pairwise_iff_getElem]
    intro i j hi hj hij e
    simp at hi hj e
    have := h.inj i j hi hj (by have := h.rng i hi; have := h.rng j hj; omega)
    omega
  · intro x hx
    obtain ⟨y, hy, rfl⟩ := List.mem_map.1 hx
    obtain ⟨j, hj, rfl⟩ := List.getElem_of_mem hy
    have := h.rng j hj
    omega
/-- Every place is named. -/
theorem POk.onto {xs : List Int} (h : POk xs) (v : Nat) (hv : v < xs.length) : ∃ j, ∃ hj : j < xs.length, xs[j] = (v : Int) := by
  have hm : v ∈ xs.map Int.toNat := by
    apply Classical.byContradiction
    intro hn
    have := few_of xs.length (v :: xs.map Int.toNat) (List.nodup_cons.2 ⟨hn, h.nat.1⟩) (fun x hx => by
      rcases List.mem_cons.1 hx with rfl | hx
      · exact hv
      · exact h.nat.2 x hx)
    simp at this
    omega
  obtain ⟨y, hy, e⟩ := List.mem_map.1 hm
  obtain ⟨j, hj, rfl⟩ := List.getElem_of_mem hy
  exact ⟨j, hj, by have := h.rng j hj; omega⟩

/-- The inverse by what it says: at the place xs[j] stands j. -/
def IsInv (xs ys : List Int) : Prop := ys.length = xs.length ∧ ∀ j (hj : j < xs.length), ys[xs[j].toNat]? = some (j : Int)
theorem IsInv.uniq {xs ys zs : List Int} (h : POk xs) (hy : IsInv xs ys) (hz : IsInv xs zs) : ys = zs := by
  apply List.ext_getElem?
  intro v
  by_cases hv : v < xs.length
  · obtain ⟨j, hj, e⟩ := h.onto v hv
    have h1 := hy.2 j hj
    have h2 := hz.2 j hj
    rw [e] at h1 h2
    simp only [Int.toNat_natCast] at h1 h2
    rw [h1, h2]
  · rw [List.getElem?_eq_none (by rw [hy.1]; omega), List.getElem?_eq_none (by rw [hz.1]; omega)]
/-- The inverse of an order is one, and its inverse is the order. -/
theorem IsInv.pok {xs ys : List Int} (h : POk xs) (hy : IsInv xs ys) : POk ys := by
  have key : ∀ v (hv : v < ys.length), ∃ j, ∃ hj : j < xs.length, xs[j] = (v : Int) ∧ ys[v] = (j : Int) := by
    intro v hv
    obtain ⟨j, hj, e⟩ := h.onto v (by rw [← hy.1]; exact hv)
    refine ⟨j, hj, e, ?_⟩
    have := hy.2 j hj
    rw [e] at this
    simp only [Int.toNat_natCast] at this
    rw [List.getElem?_eq_getElem hv] at this
    exact Option.some.inj this
  refine pok_of (by rw [hy.1]; exact h.1) ?_ ?_
  · intro v hv
    obtain ⟨j, hj, _, e⟩ := key v hv
    rw [e, hy.1]
    omega
  · intro u v hu hv e
    obtain ⟨i, hi, e1, e2⟩ := key u hu
    obtain ⟨j, hj, e3, e4⟩ := key v hv
    have : i = j := by omega
    subst this
    omega
theorem IsInv.back {xs ys : List Int} (h : POk xs) (hy : IsInv xs ys) : IsInv ys xs := by
  refine ⟨hy.1.symm, fun v hv => ?_⟩
  obtain ⟨j, hj, e⟩ := h.onto v (by rw [← hy.1]; exact hv)
  have := hy.2 j hj
  rw [e] at this
  simp only [Int.toNat_natCast] at this
  rw [List.getElem?_eq_getElem hv] at this
  rw [Option.some.inj this]
  simp only [Int.toNat_natCast]
  rw [List.getElem?_eq_getElem hj, e]

/-- A list mixed through an order. -/
def thr (xs ls : List Int) : List Int := xs.map fun p => ls.getD p.toNat 0
theorem thr_length (xs ls : List Int) : (thr xs ls).length = xs.length := by simp [thr]
theorem thr_get {xs ls : List Int} (j : Nat) (hj : j < xs.length) (hp : xs[j].toNat < ls.length) : (thr xs ls)[j]'(by rw [thr_length]; exact hj) = ls[xs[j].toNat] := by
  simp [thr, List.getD_eq_getElem?_getD, List.getElem?_eq_getElem hp]
theorem thr_back {xs ys ls : List Int} (h : POk xs) (hy : IsInv xs ys) (hl : ls.length = xs.length) : thr ys (thr xs ls) = ls := by
  apply List.ext_getElem
  · rw [thr_length, hy.1, hl]
  · intro v h1 h2
    obtain ⟨j, hj, e⟩ := h.onto v (by omega)
    have hb := hy.2 j hj
    rw [e] at hb
    simp only [Int.toNat_natCast] at hb
    have hv : v < ys.length := by rw [hy.1]; omega
    rw [List.getElem?_eq_getElem hv] at hb
    have hb' := Option.some.inj hb
    have hp : ys[v].toNat < (thr xs ls).length := by rw [thr_length, hb']; omega
    rw [thr_get v hv hp]
    have hj' : ys[v].toNat = j := by rw [hb']; omega
    have hx : xs[j].toNat = v := by rw [e]; omega
    have h3 := thr_get (ls := ls) j hj (by omega)
    have h4 : (thr xs ls)[ys[v].toNat] = (thr xs ls)[j]'(by rw [thr_length]; exact hj) := by congr 1
    rw [h4, h3]
    congr 1
end Go.Proofs.Ytdcbcacgppffgaa.Pe
