/-
  Rows and their cells as plain lists: which rows are right, the cells of rows, the score of cells, rows that were asked, what a split gains.
-/
import Derived.Test.YtmfippeclkmhnaaLists
namespace Go.Proofs.Ytmfippeclkmhnaa.Se

structure R where
  x : List (List Int)
  g : List Int
  ids : List Int
  lv : Int
  l2 : Int

abbrev rowok (r : R) (i : Nat) : Prop := (r.x.getD i []).length = 6 ∧ (-2000000 ≤ r.g.getD i 0 ∧ r.g.getD i 0 ≤ 2000000) ∧ (0 ≤ r.ids.getD i 0 ∧ r.ids.getD i 0 < r.lv)
abbrev shape (r : R) : Prop := r.x.length ≤ 40 ∧ r.g.length = r.x.length ∧ r.ids.length = r.x.length ∧ (1 ≤ r.lv ∧ r.lv ≤ 16) ∧ (1 ≤ r.l2 ∧ r.l2 ≤ 1000)
abbrev ROk (r : R) : Prop := shape r ∧ ∀ i, i < r.x.length → rowok r i
def rok (r : R) : Bool := decide (ROk r)
theorem rok_iff {r : R} : rok r = true ↔ ROk r := by simp [rok]
theorem rok_shape {r : R} (h : ¬ shape r) : rok r = false := by simp [rok, ROk, h]
theorem rok_row {r : R} {i : Nat} (hi : i < r.x.length) (h : ¬ rowok r i) : rok r = false := by
  simp only [rok, decide_eq_false_iff_not]
  exact fun h' => h (h'.2 i hi)
theorem rok_all {r : R} (hs : shape r) (h : ∀ i, i < r.x.length → rowok r i) : rok r = true := rok_iff.2 ⟨hs, h⟩

/-- One more row in its cell. -/
def bump (cs : List (Int × Int)) (id g : Int) : List (Int × Int) := cs.set id.toNat ((cs.getD id.toNat (0, 0)).1 + 1, (cs.getD id.toNat (0, 0)).2 + g)
theorem bump_length (cs : List (Int × Int)) (id g : Int) : (bump cs id g).length = cs.length := by simp [bump]
/-- The first j rows put into cells. -/
def tally (ids gs : List Int) (cs : List (Int × Int)) : Nat → List (Int × Int)
  | 0 => cs
  | j + 1 => bump (tally ids gs cs j) (ids.getD j 0) (gs.getD j 0)
theorem tally_length (ids gs : List Int) (cs : List (Int × Int)) (j : Nat) : (tally ids gs cs j).length = cs.length := by
  induction j with
  | zero => rfl
  | succ j ih => simp [tally, bump_length, ih]
def none0 (n : Nat) : List (Int × Int) := List.replicate n (0, 0)
theorem none0_length (n : Nat) : (none0 n).length = n := by simp [none0]
def cells (r : R) : List (Int × Int) := if rok r = true then tally r.ids r.g (none0 r.lv.toNat) r.ids.length else []
theorem cells_ok {r : R} (h : rok r = true) : cells r = tally r.ids r.g (none0 r.lv.toNat) r.ids.length := if_pos h
theorem cells_no {r : R} (h : rok r = false) : cells r = [] := if_neg (by simp [h])
/-- How many of the first j rows are in cell k, and what they come to. -/
def cnt (ids : List Int) (k : Nat) : Nat → Int
  | 0 => 0
  | j + 1 => cnt ids k j + (if (ids.getD j 0).toNat = k then 1 else 0)
def smg (ids gs : List Int) (k : Nat) : Nat → Int
  | 0 => 0
  | j + 1 => smg ids gs k j + (if (ids.getD j 0).toNat = k then gs.getD j 0 else 0)
theorem tally_get (ids gs : List Int) (cs : List (Int × Int)) (j k : Nat) (hk : k < cs.length) : (tally ids gs cs j).getD k (0, 0) = ((cs.getD k (0, 0)).1 + cnt ids k j, (cs.getD k (0, 0)).2 + smg ids gs k j) := by
  induction j with
  | zero => simp [tally, cnt, smg]
  | succ j ih =>
    have hl := tally_length ids gs cs j
    simp only [tally, bump, List.getD_eq_getElem?_getD, List.getElem?_set] at ih ⊢
    by_cases e : (ids[j]?.getD 0).toNat = k
    · subst e
      simp only [if_true, hl, hk, Option.getD_some, cnt, smg, List.getD_eq_getElem?_getD]
      rw [ih]
      simp
      omega
    · simp only [e, if_false, cnt, smg, List.getD_eq_getElem?_getD]
      rw [ih]
      simp
theorem none0_get (n k : Nat) : (none0 n).getD k (0, 0) = (0, 0) := by
  simp [none0, List.getD_eq_getElem?_getD, List.getElem?_replicate]
  split <;> rfl
theorem tally0_get (ids gs : List Int) (n j k : Nat) (hk : k < n) : (tally ids gs (none0 n) j).getD k (0, 0) = (cnt ids k j, smg ids gs k j) := by
  rw [tally_get _ _ _ _ _ (by rw [none0_length]; exact hk), none0_get]; simp
theorem cnt_range (ids : List Int) (k j : Nat) : 0 ≤ cnt ids k j ∧ cnt ids k j ≤ j := by
  induction j with
  | zero => simp [cnt]
  | succ j ih => simp only [cnt]; split <;> omega
theorem smg_range (ids gs : List Int) (k j : Nat) (h : ∀ i, i < j → -2000000 ≤ gs.getD i 0 ∧ gs.getD i 0 ≤ 2000000) : -2000000 * (j : Int) ≤ smg ids gs k j ∧ smg ids gs k j ≤ 2000000 * (j : Int) := by
  induction j with
  | zero => simp [smg]
  | succ j ih =>
    have h1 := ih (fun i hi => h i (by omega))
    have h2 := h j (by omega)
    simp only [smg]; split <;> omega
abbrev cok (c : Int × Int) : Prop := (0 ≤ c.1 ∧ c.1 ≤ 40) ∧ (-80000000 ≤ c.2 ∧ c.2 ≤ 80000000)
def cokb (c : Int × Int) : Bool := decide (cok c)
theorem cokb_yes {c : Int × Int} (h : cok c) : cokb c = true := decide_eq_true h
theorem cokb_no {c : Int × Int} (h : ¬ cok c) : cokb c = false := decide_eq_false h
def one (c : Int × Int) (l2 : Int) : Int := (c.2 * c.2).tdiv (c.1 + l2)
def ssum (l2 : Int) : List (Int × Int) → Int
  | [] => 0
  | c :: cs => one c l2 + ssum l2 cs
def scok (cs : List (Int × Int)) (l2 : Int) : Bool := decide (cs.length ≤ 16 ∧ (1 ≤ l2 ∧ l2 ≤ 1000) ∧ ∀ c ∈ cs, cok c)
def score (cs : List (Int × Int)) (l2 : Int) : Int := if scok cs l2 = true then ssum l2 cs else 0
theorem scok_iff {cs : List (Int × Int)} {l2 : Int} : scok cs l2 = true ↔ cs.length ≤ 16 ∧ (1 ≤ l2 ∧ l2 ≤ 1000) ∧ ∀ c ∈ cs, cok c := by simp [scok]
theorem score_ok {cs : List (Int × Int)} {l2 : Int} (h : scok cs l2 = true) : score cs l2 = ssum l2 cs := if_pos h
theorem score_no {cs : List (Int × Int)} {l2 : Int} (h : scok cs l2 = false) : score cs l2 = 0 := if_neg (by simp [h])
theorem scok_head {cs : List (Int × Int)} {l2 : Int} (h : ¬ (cs.length ≤ 16 ∧ (1 ≤ l2 ∧ l2 ≤ 1000))) : scok cs l2 = false := by
  simp only [scok, decide_eq_false_iff_not]; exact fun h' => h ⟨h'.1, h'.2.1⟩
theorem scok_bad {cs : List (Int × Int)} {l2 : Int} {k : Nat} (hk : k < cs.length) (h : ¬ cok cs[k]) : scok cs l2 = false := by
  simp only [scok, decide_eq_false_iff_not]; exact fun h' => h (h'.2.2 _ (List.getElem_mem hk))
theorem scok_all {cs : List (Int × Int)} {l2 : Int} (h1 : cs.length ≤ 16) (h2 : 1 ≤ l2 ∧ l2 ≤ 1000) (h : ∀ k (hk : k < cs.length), cok cs[k]) : scok cs l2 = true :=
  scok_iff.2 ⟨h1, h2, fun c hc => by obtain ⟨k, hk, rfl⟩ := List.mem_iff_getElem.1 hc; exact h k hk⟩
theorem one_range {c : Int × Int} {l2 : Int} (hc : cok c) (h2 : 1 ≤ l2 ∧ l2 ≤ 1000) : 0 ≤ one c l2 ∧ one c l2 ≤ 6400000000000000 := by
  obtain ⟨⟨n0, n1⟩, g0, g1⟩ := hc
  have hsq : 0 ≤ c.2 * c.2 ∧ c.2 * c.2 ≤ 6400000000000000 := by
    constructor
    · rcases Int.le_total 0 c.2 with h | h
      · exact Int.mul_nonneg h h
      · exact Int.mul_nonneg_of_nonpos_of_nonpos h h
    · have h1 : (80000000 - c.2) * (80000000 + c.2) ≥ 0 := Int.mul_nonneg (by omega) (by omega)
      have h2 : (80000000 - c.2) * (80000000 + c.2) = 6400000000000000 - c.2 * c.2 := by
        rw [Int.sub_mul, Int.mul_add, Int.mul_add, Int.mul_comm c.2 80000000]; omega
      omega
  unfold one
  obtain ⟨s, hs⟩ : ∃ s, c.2 * c.2 = s := ⟨_, rfl⟩
  rw [hs] at hsq ⊢
  rw [Int.tdiv_eq_ediv_of_nonneg hsq.1]
  constructor
  · exact Int.ediv_nonneg hsq.1 (by omega)
  · exact Int.le_trans (Int.ediv_le_self _ hsq.1) hsq.2
theorem sq_range {c : Int × Int} (hc : cok c) : 0 ≤ c.2 * c.2 ∧ c.2 * c.2 ≤ 6400000000000000 := by
  obtain ⟨⟨n0, n1⟩, g0, g1⟩ := hc
  constructor
  · rcases Int.le_total 0 c.2 with h | h
    · exact Int.mul_nonneg h h
    · exact Int.mul_nonneg_of_nonpos_of_nonpos h h
  · have h1 : (80000000 - c.2) * (80000000 + c.2) ≥ 0 := Int.mul_nonneg (by omega) (by omega)
    have h2 : (80000000 - c.2) * (80000000 + c.2) = 6400000000000000 - c.2 * c.2 := by
      rw [Int.sub_mul, Int.mul_add, Int.mul_add, Int.mul_comm c.2 80000000]; omega
    omega
theorem ssum_take (cs : List (Int × Int)) (l2 : Int) (k : Nat) (h : k < cs.length) : ssum l2 (cs.take (k + 1)) = ssum l2 (cs.take k) + one cs[k] l2 := by
  induction cs generalizing k with
  | nil => simp at h
  | cons c cs ih =>
    cases k with
    | zero => simp [ssum]
    | succ k =>
      simp only [List.take_succ_cons, ssum, List.getElem_cons_succ]
      rw [ih k (by simpa using h)]
      omega
theorem ssum_range (cs : List (Int × Int)) (l2 : Int) (h2 : 1 ≤ l2 ∧ l2 ≤ 1000) (k : Nat) (hk : k ≤ cs.length) (h : ∀ j (hj : j < cs.length), j < k → cok cs[j]) : 0 ≤ ssum l2 (cs.take k) ∧ ssum l2 (cs.take k) ≤ 6400000000000000 * (k : Int) := by
  induction k with
  | zero => simp [ssum]
  | succ k ih =>
    have h1 := ih (by omega) (fun j hj hjk => h j hj (by omega))
    have h3 := one_range (h k (by omega) (by omega)) h2
    rw [ssum_take cs l2 k (by omega)]
    omega
theorem ssum_append (cs ds : List (Int × Int)) (l2 : Int) : ssum l2 (cs ++ ds) = ssum l2 cs + ssum l2 ds := by
  induction cs with
  | nil => simp [ssum]
  | cons c cs ih => simp only [List.cons_append, ssum, ih]; omega
theorem ssum_none (n : Nat) (l2 : Int) : ssum l2 (none0 n) = 0 := by
  induction n with
  | zero => rfl
  | succ n ih =>
    show ssum l2 (List.replicate (n + 1) (0, 0)) = 0
    rw [List.replicate_succ]
    simp only [ssum]
    rw [show ssum l2 (List.replicate n (0, 0)) = 0 from ih]
    simp [one]
/-- More cells than leaves: those behind the last leaf stay empty. -/
theorem bump_take (cs : List (Int × Int)) (id g : Int) (m : Nat) (h : id.toNat < m) : (bump cs id g).take m = bump (cs.take m) id g := by
  simp only [bump, List.take_set, List.getD_eq_getElem?_getD, List.getElem?_take, h, if_true]
theorem bump_drop (cs : List (Int × Int)) (id g : Int) (m : Nat) (h : id.toNat < m) : (bump cs id g).drop m = cs.drop m := by
  simp only [bump]
  exact List.drop_set_of_lt h
theorem tally_take (ids gs : List Int) (cs : List (Int × Int)) (m j : Nat) (h : ∀ i, i < j → (ids.getD i 0).toNat < m) : (tally ids gs cs j).take m = tally ids gs (cs.take m) j ∧ (tally ids gs cs j).drop m = cs.drop m := by
  induction j with
  | zero => exact ⟨rfl, rfl⟩
  | succ j ih =>
    obtain ⟨h1, h2⟩ := ih (fun i hi => h i (by omega))
    have hj := h j (by omega)
    simp only [tally]
    rw [bump_take _ _ _ _ hj, bump_drop _ _ _ _ hj, h1, h2]
    exact ⟨rfl, rfl⟩
theorem none0_take (n m : Nat) (h : m ≤ n) : (none0 n).take m = none0 m := by simp [none0, List.take_replicate, Nat.min_eq_left h]
theorem none0_drop (n m : Nat) : (none0 n).drop m = none0 (n - m) := by simp [none0]
/-- The cells of all rows in a table of n places. -/
theorem tally_wide (ids gs : List Int) (n m j : Nat) (hm : m ≤ n) (h : ∀ i, i < j → (ids.getD i 0).toNat < m) : tally ids gs (none0 n) j = tally ids gs (none0 m) j ++ none0 (n - m) := by
  obtain ⟨h1, h2⟩ := tally_take ids gs (none0 n) m j h
  rw [← List.take_append_drop m (tally ids gs (none0 n) j), h1, h2, none0_take n m hm, none0_drop]
theorem tally_cok (ids gs : List Int) (n j : Nat) (hj : j ≤ 40) (h : ∀ i, i < j → -2000000 ≤ gs.getD i 0 ∧ gs.getD i 0 ≤ 2000000) : ∀ k (hk : k < (tally ids gs (none0 n) j).length), cok (tally ids gs (none0 n) j)[k] := by
  intro k hk
  have hk' : k < n := by rw [tally_length, none0_length] at hk; exact hk
  have h1 := tally0_get ids gs n j k hk'
  rw [List.getD_eq_getElem?_getD, List.getElem?_eq_getElem hk, Option.getD_some] at h1
  rw [h1]
  have h2 := cnt_range ids k j
  have h3 := smg_range ids gs k j h
  exact ⟨⟨h2.1, by simp only; omega⟩, by simp only; omega, by simp only; omega⟩
/-- Rows that were asked. -/
def can (r : R) (f : Int) : Bool := rok r && decide (r.lv ≤ 8) && Li.btw f 0 5
abbrev says (r : R) (f b : Int) (i : Nat) : Prop := b < (r.x.getD i []).getD f.toNat 0
def idA (r : R) (f b : Int) (i : Nat) : Int := if says r f b i then r.ids.getD i 0 + r.lv else r.ids.getD i 0
def idsA (r : R) (f b : Int) : List Int := (List.range r.x.length).map (idA r f b)
theorem idsA_length (r : R) (f b : Int) : (idsA r f b).length = r.x.length := by simp [idsA]
theorem idsA_get (r : R) (f b : Int) (i : Nat) (h : i < r.x.length) : (idsA r f b).getD i 0 = idA r f b i := by
  simp [idsA, List.getD_eq_getElem?_getD, h]
theorem idsA_at (r : R) (f b : Int) (i : Nat) (h : i < (idsA r f b).length) : (idsA r f b)[i] = idA r f b i := by simp [idsA]
def asked (r : R) (f b : Int) : R := if can r f = true then ⟨r.x, r.g, idsA r f b, 2 * r.lv, r.l2⟩ else ⟨[], [], [], 0, 0⟩
theorem asked_ok {r : R} {f : Int} (b : Int) (h : can r f = true) : asked r f b = ⟨r.x, r.g, idsA r f b, 2 * r.lv, r.l2⟩ := if_pos h
theorem asked_no {r : R} {f : Int} (b : Int) (h : can r f = false) : asked r f b = ⟨[], [], [], 0, 0⟩ := if_neg (by simp [h])
theorem can_iff {r : R} {f : Int} : can r f = true ↔ ROk r ∧ r.lv ≤ 8 ∧ 0 ≤ f ∧ f ≤ 5 := by
  simp [can, rok_iff, Li.btw, and_assoc]
theorem idA_range {r : R} {f : Int} (b : Int) (h : can r f = true) (i : Nat) (hi : i < r.x.length) : 0 ≤ idA r f b i ∧ idA r f b i < 2 * r.lv := by
  obtain ⟨h1, _⟩ := can_iff.1 h
  have h2 := (h1.2 i hi).2.2
  unfold idA; split <;> omega
theorem asked_rok {r : R} {f : Int} (b : Int) (h : can r f = true) : rok (asked r f b) = true := by
  obtain ⟨⟨hs, hr⟩, h8, _⟩ := can_iff.1 h
  rw [asked_ok b h]
  obtain ⟨s1, s2, s3, s4, s5⟩ := hs
  refine rok_all ⟨s1, s2, by simp [idsA_length], by simp only; omega, s5⟩ (fun i hi => ?_)
  have := hr i hi
  refine ⟨this.1, this.2.1, ?_⟩
  simp only
  rw [idsA_get r f b i hi]
  exact idA_range b h i hi
theorem empty_no : rok ⟨[], [], [], 0, 0⟩ = false := by decide
def gain (r : R) (f b : Int) : Int := score (cells (asked r f b)) (asked r f b).l2
theorem gain_no {r : R} {f : Int} (b : Int) (h : can r f = false) : gain r f b = 0 := by
  unfold gain; rw [asked_no b h, cells_no empty_no, score_no (scok_head (by simp))]
theorem ids_lt {r : R} (h : rok r = true) (i : Nat) (hi : i < r.ids.length) : (r.ids.getD i 0).toNat < r.lv.toNat := by
  obtain ⟨hs, hr⟩ := rok_iff.1 h
  have h1 := (hr i (by have := hs.2.2.1; omega)).2.2
  omega
/-- The score of the cells of right rows, in a table of sixteen places. -/
theorem score_wide {r : R} (h : rok r = true) : score (tally r.ids r.g (none0 16) r.ids.length) r.l2 = score (cells r) r.l2 := by
  obtain ⟨hs, hr⟩ := rok_iff.1 h
  obtain ⟨s1, s2, s3, s4, s5⟩ := hs
  have hg : ∀ i, i < r.ids.length → -2000000 ≤ r.g.getD i 0 ∧ r.g.getD i 0 ≤ 2000000 := fun i hi => (hr i (by omega)).2.1
  rw [cells_ok h]
  rw [score_ok (scok_all (by rw [tally_length, none0_length]; omega) s5 (tally_cok _ _ _ _ (by omega) hg)), score_ok (scok_all (by rw [tally_length, none0_length]; omega) s5 (tally_cok _ _ _ _ (by omega) hg))]
  rw [tally_wide r.ids r.g 16 r.lv.toNat r.ids.length (by omega) (fun i hi => ids_lt h i hi), ssum_append, ssum_none]
  omega
end Go.Proofs.Ytmfippeclkmhnaa.Se
