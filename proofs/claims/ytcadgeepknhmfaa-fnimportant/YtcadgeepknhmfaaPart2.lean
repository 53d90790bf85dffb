/-
  Contracts that the proof leans on, put together in the order in which they build.
-/
import Derived.Test.YtcadgeepknhmfaaPart1
/-
  Rows and their cells as plain lists: which rows are right, the cells of rows, the score of cells, rows that were asked, what a split gains.
-/
namespace Go.Proofs.Ytcadgeepknhmfaa.Se

structure R where
  x : List (List Int)
  g : List Int
  ids : List Int
  lv : Int
  l2 : Int

abbrev rowok (r : R) (i : Nat) : Prop := (r.x.getD i []).length = 6 ∧ (-2000000 ≤ r.g.getD i 0 ∧ r.g.getD i 0 ≤ 2000000) ∧ (0 ≤ r.ids.getD i 0 ∧ r.ids.getD i 0 < r.lv)
abbrev shape (r : R) : Prop := r.x.length ≤ 40 ∧ r.g.length = r.x.length ∧ r.ids.length = r.x.length ∧ (1 ≤ r.lv ∧ r.lv ≤ 16) ∧ (1 ≤ r.l2 ∧ r.l2 ≤ 1000)
abbrev ROk (r : R) : Prop := shape r ∧ ∀ i, i < r.x.length → rowok r i
def rok (r : R) : Bool := decide (ROk r)
theorem rok_iff {r : R} : rok r = true ↔ ROk r := by simp [rok]
theorem rok_shape {r : R} (h : ¬ shape r) : rok r = false := by simp [rok, ROk, h]
theorem rok_row {r : R} {i : Nat} (hi : i < r.x.length) (h : ¬ rowok r i) : rok r = false := by
  simp only [rok, decide_eq_false_iff_not]
  exact fun h' => h (h'.2 i hi)
theorem rok_all {r : R} (hs : shape r) (h : ∀ i, i < r.x.length → rowok r i) : rok r = true := rok_iff.2 ⟨hs, h⟩

/-- One more row in its cell. -/
def bump (cs : List (Int × Int)) (id g : Int) : List (Int × Int) := cs.set id.toNat ((cs.getD id.toNat (0, 0)).1 + 1, (cs.getD id.toNat (0, 0)).2 + g)
theorem bump_length (cs : List (Int × Int)) (id g : Int) : (bump cs id g).length = cs.length := by simp [bump]
/-- The first j rows put into cells. -/
def tally (ids gs : List Int) (cs : List (Int × Int)) : Nat → List (Int × Int)
  | 0 => cs
  | j + 1 => bump (tally ids gs cs j) (ids.getD j 0) (gs.getD j 0)
theorem tally_length (ids gs : List Int) (cs : List (Int × Int)) (j : Nat) : (tally ids gs cs j).length = cs.length := by
  induction j with
  | zero => rfl
  | succ j ih => simp [tally, bump_length, ih]
def none0 (n : Nat) : List (Int × Int) := List.replicate n (0, 0)
theorem none0_length (n : Nat) : (none0 n).length = n := by simp [none0]
def cells (r : R) : List (Int × Int) := if rok r = true then tally r.ids r.g (none0 r.lv.toNat) r.ids.length else []
theorem cells_ok {r : R} (h : rok r = true) : cells r = tally r.ids r.g (none0 r.lv.toNat) r.ids.length := if_pos h
theorem cells_no {r : R} (h : rok r = false) : cells r = [] := if_neg (by simp [h])
/-- How many of the first j rows are in cell k, and what they come to. -/
def cnt (ids : List Int) (k : Nat) : Nat → Int
  | 0 => 0
  | j + 1 => cnt ids k j + (if (ids.getD j 0).toNat = k then 1 else 0)
def smg (ids gs : List Int) (k : Nat) : Nat → Int
  | 0 => 0
  | j + 1 => smg ids gs k j + (if (ids.getD j 0).toNat = k then gs.getD j 0 else 0)
theorem tally_get (ids gs : List Int) (cs : List (Int × Int)) (j k : Nat) (hk : k < cs.length) : (tally ids gs cs j).getD k (0, 0) = ((cs.getD k (0, 0)).1 + cnt ids k j, (cs.getD k (0, 0)).2 + smg ids gs k j) := by
  induction j with
  | zero => simp [tally, cnt, smg]
  | succ j ih =>
    have hl := tally_length ids gs cs j
    simp only [tally, bump, List.getD_eq_getElem?_getD, List.getElem?_set] at ih ⊢
    by_cases e : (ids[j]?.getD 0).toNat = k
    · subst e
      simp only [if_true, hl, hk, Option.getD_some, cnt, smg, List.getD_eq_getElem?_getD]
      rw [ih]
      simp
      omega
    · simp only [e, if_false, cnt, smg, List.getD_eq_getElem?_getD]
      rw [ih]
      simp
theorem none0_get (n k : Nat) : (none0 n).getD k (0, 0) = (0, 0) := by
  simp [none0, List.getD_eq_getElem?_getD, List.getElem?_replicate]
  split <;> rfl
theorem tally0_get (ids gs : List Int) (n j k : Nat) (hk : k < n) : (tally ids gs (none0 n) j).getD k (0, 0) = (cnt ids k j, smg ids gs k j) := by
  rw [tally_get _ _ _ _ _ (by rw [none0_length]; exact hk), none0_get]; simp
theorem cnt_range (ids : List Int) (k j : Nat) : 0 ≤ cnt ids k j ∧ cnt ids k j ≤ j := by
  induction j with
  | zero => simp [cnt]
  | succ j ih => simp only [cnt]; split <;> omega
theorem smg_range (ids gs : List Int) (k j : Nat) (h : ∀ i, i < j → -2000000 ≤ gs.getD i 0 ∧ gs.getD i 0 ≤ 2000000) : -2000000 * (j : Int) ≤ smg ids gs k j ∧ smg ids gs k j ≤ 2000000 * (j : Int) := by
  induction j with
  | zero => simp [smg]
  | succ j ih =>
    have h1 := ih (fun i hi => h i (by omega))
    have h2 := h j (by omega)
    simp only [smg]; split <;> omega
abbrev cok (c : Int × Int) : Prop := (0 ≤ c.1 ∧ c.1 ≤ 40) ∧ (-80000000 ≤ c.2 ∧ c.2 ≤ 80000000)
def cokb (c : Int × Int) : Bool := decide (cok c)
theorem cokb_yes {c : Int × Int} (h : cok c) : cokb c = true := decide_eq_true h
theorem cokb_no {c : Int × Int} (h : ¬ cok c) : cokb c = false := decide_eq_false h
def one (c : Int × Int) (l2 : Int) : Int := (c.2 * c.2).tdiv (c.1 + l2)
def ssum (l2 : Int) : List (Int × Int) → Int
  | [] => 0
  | c :: cs => one c l2 + ssum l2 cs
def scok (cs : List (Int × Int)) (l2 : Int) : Bool := decide (cs.length ≤ 16 ∧ (1 ≤ l2 ∧ l2 ≤ 1000) ∧ ∀ c ∈ cs, cok c)
def score (cs : List (Int × Int)) (l2 : Int) : Int := if scok cs l2 = true then ssum l2 cs else 0
theorem scok_iff {cs : List (Int × Int)} {l2 : Int} : scok cs l2 = true ↔ cs.length ≤ 16 ∧ (1 ≤ l2 ∧ l2 ≤ 1000) ∧ ∀ c ∈ cs, cok c := by simp [scok]
theorem score_ok {cs : List (Int × Int)} {l2 : Int} (h : scok cs l2 = true) : score cs l2 = ssum l2 cs := if_pos h
theorem score_no {cs : List (Int × Int)} {l2 : Int} (h : scok cs l2 = false) : score cs l2 = 0 := if_neg (by simp [h])
theorem scok_head {cs : List (Int × Int)} {l2 : Int} (h : ¬ (cs.length ≤ 16 ∧ (1 ≤ l2 ∧ l2 ≤ 1000))) : scok cs l2 = false := by
  simp only [scok, decide_eq_false_iff_not]; exact fun h' => h ⟨h'.1, h'.2.1⟩
theorem scok_bad {cs : List (Int × Int)} {l2 : Int} {k : Nat} (hk : k < cs.length) (h : ¬ cok cs[k]) : scok cs l2 = false := by
  simp only [scok, decide_eq_false_iff_not]; exact fun h' => h (h'.2.2 _ (List.getElem_mem hk))
theorem scok_all {cs : List (Int × Int)} {l2 : Int} (h1 : cs.length ≤ 16) (h2 : 1 ≤ l2 ∧ l2 ≤ 1000) (h : ∀ k (hk : k < cs.length), cok cs[k]) : scok cs l2 = true :=
  scok_iff.2 ⟨h1, h2, fun c hc => by obtain ⟨k, hk, rfl⟩ := List.mem_iff_getElem.1 hc; exact h k hk⟩
theorem one_range {c : Int × Int} {l2 : Int} (hc : cok c) (h2 : 1 ≤ l2 ∧ l2 ≤ 1000) : 0 ≤ one c l2 ∧ one c l2 ≤ 6400000000000000 := by
  obtain ⟨⟨n0, n1⟩, g0, g1⟩ := hc
  have hsq : 0 ≤ c.2 * c.2 ∧ c.2 * c.2 ≤ 6400000000000000 := by
    constructor
    · rcases Int.le_total 0 c.2 with h | h
      · exact Int.mul_nonneg h h
      · exact Int.mul_nonneg_of_nonpos_of_nonpos h h
    · have h1 : (80000000 - c.2) * (80000000 + c.2) ≥ 0 := Int.mul_nonneg (by omega) (by omega)
      have h2 : (80000000 - c.2) * (80000000 + c.2) = 6400000000000000 - c.2 * c.2 := by
        rw [Int.sub_mul, Int.mul_add, Int.mul_add, Int.mul_comm c.2 80000000]; omega
      omega
  unfold one
  obtain ⟨s, hs⟩ : ∃ s, c.2 * c.2 = s := ⟨_, rfl⟩
  rw [hs] at hsq ⊢
  rw [Int.tdiv_eq_ediv_of_nonneg hsq.1]
  constructor
  · exact Int.ediv_nonneg hsq.1 (by omega)
  · exact Int.le_trans (Int.ediv_le_self _ hsq.1) hsq.2
theorem sq_range {c : Int × Int} (hc : cok c) : 0 ≤ c.2 * c.2 ∧ c.2 * c.2 ≤ 6400000000000000 := by
  obtain ⟨⟨n0, n1⟩, g0, g1⟩ := hc
  constructor
  · rcases Int.le_total 0 c.2 with h | h
    · exact Int.mul_nonneg h h
    · exact Int.mul_nonneg_of_nonpos_of_nonpos h h
  · have h1 : (80000000 - c.2) * (80000000 + c.2) ≥ 0 := Int.mul_nonneg (by omega) (by omega)
    have h2 : (80000000 - c.2) * (80000000 + c.2) = 6400000000000000 - c.2 * c.2 := by
      rw [Int.sub_mul, Int.mul_add, Int.mul_add, Int.mul_comm c.2 80000000]; omega
    omega
theorem ssum_take (cs : List (Int × Int)) (l2 : Int) (k : Nat) (h : k < cs.length) : ssum l2 (cs.take (k + 1)) = ssum l2 (cs.take k) + one cs[k] l2 := by
  induction cs generalizing k with
  | nil => simp at h
  | cons c cs ih =>
    cases k with
    | zero => simp [ssum]
    | succ k =>
      simp only [List.take_succ_cons, ssum, List.getElem_cons_succ]
      rw [ih k (by simpa using h)]
      omega
theorem ssum_range (cs : List (Int × Int)) (l2 : Int) (h2 : 1 ≤ l2 ∧ l2 ≤ 1000) (k : Nat) (hk : k ≤ cs.length) (h : ∀ j (hj : j < cs.length), j < k → cok cs[j]) : 0 ≤ ssum l2 (cs.take k) ∧ ssum l2 (cs.take k) ≤ 6400000000000000 * (k : Int) := by
  induction k with
  | zero => simp [ssum]
  | succ k ih =>
    have h1 := ih (by omega) (fun j hj hjk => h j hj (by omega))
    have h3 := one_range (h k (by omega) (by omega)) h2
    rw [ssum_take cs l2 k (by omega)]
    omega
theorem ssum_append (cs ds : List (Int × Int)) (l2 : Int) : ssum l2 (cs ++ ds) = ssum l2 cs + ssum l2 ds := by
  induction cs with
  | nil => simp [ssum]
  | cons c cs ih => simp only [List.cons_append, ssum, ih]; omega
theorem ssum_none (n : Nat) (l2 : Int) : ssum l2 (none0 n) = 0 := by
  induction n with
  | zero => rfl
  | succ n ih =>
    show ssum l2 (List.replicate (n + 1) (0, 0)) = 0
    rw [List.replicate_succ]
    simp only [ssum]
    rw [show ssum l2 (List.replicate n (0, 0)) = 0 from ih]
    simp [one]
/-- More cells than leaves: those behind the last leaf stay empty. -/
theorem bump_take (cs : List (Int × Int)) (id g : Int) (m : Nat) (h : id.toNat < m) : (bump cs id g).take m = bump (cs.take m) id g := by
  simp only [bump, List.take_set, List.getD_eq_getElem?_getD, List.getElem?_take, h, if_true]
theorem bump_drop (cs : List (Int × Int)) (id g : Int) (m : Nat) (h : id.toNat < m) : (bump cs id g).drop m = cs.drop m := by
  simp only [bump]
  exact List.drop_set_of_lt h
theorem tally_take (ids gs : List Int) (cs : List (Int × Int)) (m j : Nat) (h : ∀ i, i < j → (ids.getD i 0).toNat < m) : (tally ids gs cs j).take m = tally ids gs (cs.take m) j ∧ (tally ids gs cs j).drop m = cs.drop m := by
  induction j with
  | zero => exact ⟨rfl, rfl⟩
  | succ j ih =>
    obtain ⟨h1, h2⟩ := ih (fun i hi => h i (by omega))
    have hj := h j (by omega)
    simp only [tally]
    rw [bump_take _ _ _ _ hj, bump_drop _ _ _ _ hj, h1, h2]
    exact ⟨rfl, rfl⟩
theorem none0_take (n m : Nat) (h : m ≤ n) : (none0 n).take m = none0 m := by simp [none0, List.take_replicate, Nat.min_eq_left h]
theorem none0_drop (n m : Nat) : (none0 n).drop m = none0 (n - m) := by simp [none0]
/-- The cells of all rows in a table of n places. -/
theorem tally_wide (ids gs : List Int) (n m j : Nat) (hm : m ≤ n) (h : ∀ i, i < j → (ids.getD i 0).toNat < m) : tally ids gs (none0 n) j = tally ids gs (none0 m) j ++ none0 (n - m) := by
  obtain ⟨h1, h2⟩ := tally_take ids gs (none0 n) m j h
  rw [← List.take_append_drop m (tally ids gs (none0 n) j), h1, h2, none0_take n m hm, none0_drop]
theorem tally_cok (ids gs : List Int) (n j : Nat) (hj : j ≤ 40) (h : ∀ i, i < j → -2000000 ≤ gs.getD i 0 ∧ gs.getD i 0 ≤ 2000000) : ∀ k (hk : k < (tally ids gs (none0 n) j).length), cok (tally ids gs (none0 n) j)[k] := by
  intro k hk
  have hk' : k < n := by rw [tally_length, none0_length] at hk; exact hk
  have h1 := tally0_get ids gs n j k hk'
  rw [List.getD_eq_getElem?_getD, List.getElem?_eq_getElem hk, Option.getD_some] at h1
  rw [h1]
  have h2 := cnt_range ids k j
  have h3 := smg_range ids gs k j h
  exact ⟨⟨h2.1, by simp only; omega⟩, by simp only; omega, by simp only; omega⟩
/-- Rows that were asked. -/
def can (r : R) (f : Int) : Bool := rok r && decide (r.lv ≤ 8) && Li.btw f 0 5
abbrev says (r : R) (f b : Int) (i : Nat) : Prop := b < (r.x.getD i []).getD f.toNat 0
def idA (r : R) (f b : Int) (i : Nat) : Int := if says r f b i then r.ids.getD i 0 + r.lv else r.ids.getD i 0
def idsA (r : R) (f b : Int) : List Int := (List.range r.x.length).map (idA r f b)
theorem idsA_length (r : R) (f b : Int) : (idsA r f b).length = r.x.length := by simp [idsA]
theorem idsA_get (r : R) (f b : Int) (i : Nat) (h : i < r.x.length) : (idsA r f b).getD i 0 = idA r f b i := by
  simp [idsA, List.getD_eq_getElem?_getD, h]
theorem idsA_at (r : R) (f b : Int) (i : Nat) (h : i < (idsA r f b).length) : (idsA r f b)[i] = idA r f b i := by simp [idsA]
def asked (r : R) (f b : Int) : R := if can r f = true then ⟨r.x, r.g, idsA r f b, 2 * r.lv, r.l2⟩ else ⟨[], [], [], 0, 0⟩
theorem asked_ok {r : R} {f : Int} (b : Int) (h : can r f = true) : asked r f b = ⟨r.x, r.g, idsA r f b, 2 * r.lv, r.l2⟩ := if_pos h
theorem asked_no {r : R} {f : Int} (b : Int) (h : can r f = false) : asked r f b = ⟨[], [], [], 0, 0⟩ := if_neg (by simp [h])
theorem can_iff {r : R} {f : Int} : can r f = true ↔ ROk r ∧ r.lv ≤ 8 ∧ 0 ≤ f ∧ f ≤ 5 := by
  simp [can, rok_iff, Li.btw, and_assoc]
theorem idA_range {r : R} {f : Int} (b : Int) (h : can r f = true) (i : Nat) (hi : i < r.x.length) : 0 ≤ idA r f b i ∧ idA r f b i < 2 * r.lv := by
  obtain ⟨h1, _⟩ := can_iff.1 h
  have h2 := (h1.2 i hi).2.2
  unfold idA; split <;> omega
theorem asked_rok {r : R} {f : Int} (b : Int) (h : can r f = true) : rok (asked r f b) = true := by
  obtain ⟨⟨hs, hr⟩, h8, _⟩ := can_iff.1 h
  rw [asked_ok b h]
  obtain ⟨s1, s2, s3, s4, s5⟩ := hs
  refine rok_all ⟨s1, s2, by simp [idsA_length], by simp only; omega, s5⟩ (fun i hi => ?_)
  have := hr i hi
  refine ⟨this.1, this.2.1, ?_⟩
  simp only
  rw [idsA_get r f b i hi]
  exact idA_range b h i hi
theorem empty_no : rok ⟨[], [], [], 0, 0⟩ = false := by decide
def gain (r : R) (f b : Int) : Int := score (cells (asked r f b)) (asked r f b).l2
theorem gain_no {r : R} {f : Int} (b : Int) (h : can r f = false) : gain r f b = 0 := by
  unfold gain; rw [asked_no b h, cells_no empty_no, score_no (scok_head (by simp))]
theorem ids_lt {r : R} (h : rok r = true) (i : Nat) (hi : i < r.ids.length) : (r.ids.getD i 0).toNat < r.lv.toNat := by
  obtain ⟨hs, hr⟩ := rok_iff.1 h
  have h1 := (hr i (by have := hs.2.2.1; omega)).2.2
  omega
/-- The score of the cells of right rows, in a table of sixteen places. -/
theorem score_wide {r : R} (h : rok r = true) : score (tally r.ids r.g (none0 16) r.ids.length) r.l2 = score (cells r) r.l2 := by
  obtain ⟨hs, hr⟩ := rok_iff.1 h
  obtain ⟨s1, s2, s3, s4, s5⟩ := hs
  have hg : ∀ i, i < r.ids.length → -2000000 ≤ r.g.getD i 0 ∧ r.g.getD i 0 ≤ 2000000 := fun i hi => (hr i (by omega)).2.1
  rw [cells_ok h]
  rw [score_ok (scok_all (by rw [tally_length, none0_length]; omega) s5 (tally_cok _ _ _ _ (by omega) hg)), score_ok (scok_all (by rw [tally_length, none0_length]; omega) s5 (tally_cok _ _ _ _ (by omega) hg))]
  rw [tally_wide r.ids r.g 16 r.lv.toNat r.ids.length (by omega) (fun i hi => ids_lt h i hi), ssum_append, ssum_none]
  omega
end Go.Proofs.Ytcadgeepknhmfaa.Se
/-
  Rows as the laws hold them: how great, a copy, a comparison, marks and whether they are held.
-/
namespace Go.Proofs.Ytcadgeepknhmfaa.Sv
open Go.RowKit
open Go.Proofs.Ytcadgeepknhmfaa.Li (iv ret_bool ret_int below_none IsL marks marks_length marks_get)
open Go.Proofs.Ytcadgeepknhmfaa.Tb (sub sub_yes sub_no)
open Go.Proofs.Ytcadgeepknhmfaa.Se (R)
set_option linter.unusedVariables false

/-- What rows read as. -/
def Rd (w : World) (a0 a1 a2 : Option Addr) (r : R) : Prop := IsV w a0 r.x ∧ IsL w a1 r.g ∧ IsL w a2 r.ids
theorem Rd.below {w w1 : World} {a0 a1 a2 : Option Addr} {r : R} (h : Rd w a0 a1 a2 r) (hb : Below w.heap.size w w1) : Rd w1 a0 a1 a2 r := ⟨h.1.below hb, h.2.1.below hb, h.2.2.below hb⟩
theorem Rd.drewN {w : World} {a0 a1 a2 : Option Addr} {r : R} (h : Rd w a0 a1 a2 r) (n : Nat) : Rd (w.drewN n) a0 a1 a2 r := h
theorem Rd.drew {w : World} {a0 a1 a2 : Option Addr} {r : R} (h : Rd w a0 a1 a2 r) : Rd w.drew a0 a1 a2 r := h
def szr (r : R) : Nat := r.x.length + tot r.x + r.g.length + r.ids.length
def FitsR (r : R) : Prop := FitsV r.x ∧ r.g.length ≤ 9223372036854775807 ∧ r.ids.length ≤ 9223372036854775807
/-- Rows that may be written, in blocks of B. -/
def OwR (w : World) (B : Nat → Prop) (v0 v1 v2 : Value) (r : R) : Prop :=
  ∃ B0 B1 B2 : Nat → Prop, OwV w B0 v0 r.x ∧ OwI w B1 v1 r.g ∧ OwI w B2 v2 r.ids ∧ (∀ k, B0 k → B k ∧ ¬ B1 k ∧ ¬ B2 k) ∧ (∀ k, B1 k → B k ∧ ¬ B2 k) ∧ ∀ k, B2 k → B k
theorem OwR.fr {w w1 : World} {B B' : Nat → Prop} {v0 v1 v2 : Value} {r : R} (h : OwR w B v0 v1 v2 r) (hf : Fr B' w w1) (hd : ∀ k, B k → ¬ B' k) : OwR w1 B v0 v1 v2 r := by
  obtain ⟨B0, B1, B2, h0, h1, h2, d0, d1, d2⟩ := h
  exact ⟨B0, B1, B2, h0.fr hf (fun k hk => hd k (d0 k hk).1), h1.fr hf (fun k hk => hd k (d1 k hk).1), h2.fr hf (fun k hk => hd k (d2 k hk)), d0, d1, d2⟩
theorem OwR.below {w w1 : World} {B : Nat → Prop} {v0 v1 v2 : Value} {r : R} (h : OwR w B v0 v1 v2 r) (hb : Below w.heap.size w w1) : OwR w1 B v0 v1 v2 r := h.fr (fr_below (B := fun _ => False) hb) (fun _ _ e => e)
theorem OwR.mono {w : World} {B B' : Nat → Prop} {v0 v1 v2 : Value} {r : R} (h : OwR w B v0 v1 v2 r) (hb : ∀ k, B k → B' k) : OwR w B' v0 v1 v2 r := by
  obtain ⟨B0, B1, B2, h0, h1, h2, d0, d1, d2⟩ := h
  exact ⟨B0, B1, B2, h0, h1, h2, fun k hk => ⟨hb k (d0 k hk).1, (d0 k hk).2⟩, fun k hk => ⟨hb k (d1 k hk).1, (d1 k hk).2⟩, fun k hk => hb k (d2 k hk)⟩
theorem OwR.rd {w : World} {B : Nat → Prop} {v0 v1 v2 : Value} {r : R} (h : OwR w B v0 v1 v2 r) : ∃ a0 c0 a1 c1 a2 c2, v0 = .slice a0 r.x.length c0 ∧ v1 = .slice a1 r.g.length c1 ∧ v2 = .slice a2 r.ids.length c2 ∧ Rd w a0 a1 a2 r := by
  obtain ⟨B0, B1, B2, h0, h1, h2, _⟩ := h
  obtain ⟨a0, c0, e0, i0⟩ := h0.isv
  obtain ⟨a1, c1, e1, i1⟩ := h1.isl
  obtain ⟨a2, c2, e2, i2⟩ := h2.isl
  exact ⟨a0, c0, a1, c1, a2, c2, e0, e1, e2, i0, i1, i2⟩
def rmarks (k : Int) (r : R) : R := ⟨vmarks k r.x, marks (k + tot r.x) r.g.length, marks (k + tot r.x + r.g.length) r.ids.length, r.lv, r.l2⟩
end Go.Proofs.Ytcadgeepknhmfaa.Sv
/-
  Borders and bins, as plain functions on lists of numbers; what follows of them.
-/
namespace Go.Proofs.Ytcadgeepknhmfaa.Bo
open Go.RowKit

def fok (x : Int) : Bool := decide (-1000000000 ≤ x ∧ x ≤ 1000000000)
theorem fok_iff {x : Int} : fok x = true ↔ (-1000000000 ≤ x ∧ x ≤ 1000000000) := by simp [fok]
def aok (l : List Int) : Bool := l.all fok
theorem aok_iff {l : List Int} : aok l = true ↔ ∀ x ∈ l, fok x = true := by simp [aok]
theorem aok_to {l : List Int} (h : ∀ j (hj : j < l.length), fok l[j] = true) : aok l = true := by
  rw [aok_iff]; intro x hx
  obtain ⟨j, hj, rfl⟩ := List.getElem_of_mem hx
  exact h j hj
theorem aok_at {l : List Int} (h : aok l = true) (j : Nat) (hj : j < l.length) : fok l[j] = true := aok_iff.1 h _ (List.getElem_mem hj)
theorem aok_no {l : List Int} {j : Nat} (hj : j < l.length) (h : fok l[j] = false) : aok l = false := by
  cases e : aok l with
  | false => rfl
  | true => rw [aok_at e j hj] at h; cases h

/-- How many of b are less than x. -/
def bin (b : List Int) (x : Int) : Nat := (b.filter (fun y => decide (y < x))).length
theorem bin_take (b : List Int) (x : Int) (k : Nat) (h : k < b.length) : bin (b.take (k + 1)) x = bin (b.take k) x + (if b[k] < x then 1 else 0) := by
  unfold bin
  rw [List.take_succ_eq_append_getElem h, List.filter_append, List.length_append]
  congr 1
  by_cases hx : b[k] < x <;> simp [hx]
theorem bin_yes {b : List Int} {x : Int} {k : Nat} (h : k < b.length) (hx : b[k] < x) : bin (b.take (k + 1)) x = bin (b.take k) x + 1 := by rw [bin_take b x k h, if_pos hx]
theorem bin_no {b : List Int} {x : Int} {k : Nat} (h : k < b.length) (hx : ¬ b[k] < x) : bin (b.take (k + 1)) x = bin (b.take k) x := by rw [bin_take b x k h, if_neg hx]; rfl
theorem bin_le (b : List Int) (x : Int) : bin b x ≤ b.length := List.length_filter_le _ _
theorem bin_mono (b : List Int) {x y : Int} (h : x ≤ y) : bin b x ≤ bin b y := by
  unfold bin
  induction b with
  | nil => simp
  | cons a r ih =>
    simp only [List.filter_cons]
    by_cases h1 : a < x
    · have h2 : a < y := by omega
      simp [h1, h2]; omega
    · by_cases h2 : a < y <;> simp [h1, h2] <;> omega
def Srt (b : List Int) : Prop := b.Pairwise (fun x y => x < y)
theorem bin_none {b : List Int} {x : Int} (h : ∀ y ∈ b, ¬ y < x) : bin b x = 0 := by
  unfold bin
  rw [List.length_eq_zero_iff, List.filter_eq_nil_iff]
  intro y hy; simpa using h y hy
theorem bin_at {b : List Int} (hs : Srt b) (x : Int) : ∀ (n : Nat) (h : n < b.length), b[n] < x ↔ n < bin b x := by
  induction b with
  | nil => intro n h; simp at h
  | cons a r ih =>
    intro n h
    unfold Srt at hs
    rw [List.pairwise_cons] at hs
    by_cases ha : a < x
    · have e : bin (a :: r) x = bin r x + 1 := by unfold bin; simp [ha]
      rw [e]
      cases n with
      | zero => simp [ha]
      | succ n =>
        have := ih hs.2 n (by simpa using h)
        rw [List.getElem_cons_succ, this]; omega
    · have e : bin (a :: r) x = bin r x := by unfold bin; simp [ha]
      have e0 : bin r x = 0 := bin_none (fun y hy => by have := hs.1 y hy; omega)
      rw [e, e0]
      cases n with
      | zero => simp [ha]
      | succ n =>
        have hn : n < r.length := by simpa using h
        have := hs.1 r[n] (List.getElem_mem hn)
        rw [List.getElem_cons_succ]; omega
def bins (b l : List Int) : List Int := l.map fun x => (bin b x : Int)
theorem bins_length (b l : List Int) : (bins b l).length = l.length := by simp [bins]
theorem bins_get (b l : List Int) (j : Nat) (h : j < (bins b l).length) : (bins b l)[j] = (bin b (l[j]'(by rwa [bins_length] at h)) : Int) := by simp [bins]

/-- Each is less than the next, as far as the place k. -/
def Adj (b : List Int) (k : Nat) : Prop := ∀ j (h : j + 1 < b.length), j + 1 < k → b[j] < b[j + 1]
theorem adj_srt {b : List Int} (h : Adj b b.length) : Srt b := by
  unfold Srt
  rw [List.pairwise_iff_getElem]
  intro i j hi hj hij
  induction j with
  | zero => omega
  | succ j ih =>
    have h1 := h j hj hj
    by_cases e : i = j
    · subst e; exact h1
    · have := ih (by omega) (by omega); omega
theorem srt_adj {b : List Int} (h : Srt b) (k : Nat) : Adj b k := by
  intro j hj _
  exact (List.pairwise_iff_getElem.1 h) j (j + 1) (by omega) hj (by omega)
theorem adj_zero (b : List Int) : Adj b 0 := fun j _ h => by omega
theorem adj_one (b : List Int) : Adj b 1 := fun j _ h => by omega
theorem adj_succ {b : List Int} {k : Nat} (h : Adj b k) (hk : k < b.length) (hs : 0 < k → b[k - 1] < b[k]) : Adj b (k + 1) := by
  intro j hj hjk
  by_cases e : j + 1 = k
  · subst e; simpa using hs (by omega)
  · exact h j hj (by omega)
noncomputable def bok (b : List Int) : Bool := @decide (b.length ≤ 12 ∧ aok b = true ∧ Srt b) (Classical.propDecidable _)
theorem bok_iff {b : List Int} : bok b = true ↔ (b.length ≤ 12 ∧ aok b = true ∧ Srt b) := by unfold bok; simp
theorem bok_false {b : List Int} (h : ¬ (b.length ≤ 12 ∧ aok b = true ∧ Srt b)) : bok b = false := by
  cases e : bok b with
  | false => rfl
  | true => exact absurd (bok_iff.1 e) h
theorem bok_long {b : List Int} (h : 12 < b.length) : bok b = false := bok_false (fun hh => by omega)
theorem bok_bad {b : List Int} {j : Nat} (hj : j < b.length) (h : fok b[j] = false) : bok b = false := bok_false (fun hh => by rw [aok_at hh.2.1 j hj] at h; cases h)
theorem bok_nok {b : List Int} (h : aok b = false) : bok b = false := bok_false (fun hh => by rw [hh.2.1] at h; cases h)
theorem bok_fall {b : List Int} {j : Nat} (hj : j + 1 < b.length) (h : ¬ b[j] < b[j + 1]) : bok b = false := bok_false (fun hh => h (srt_adj hh.2.2 (j + 2) j hj (by omega)))
theorem bok_all {b : List Int} (h0 : b.length ≤ 12) (h1 : aok b = true) (h2 : Adj b b.length) : bok b = true := bok_iff.2 ⟨h0, h1, adj_srt h2⟩

/-- A number put into a rising list, where it is not there. -/
def ins : List Int → Int → List Int
  | [], x => [x]
  | y :: r, x => if y < x then y :: ins r x else if y = x then y :: r else x :: y :: r
theorem ins_mem (l : List Int) (x y : Int) : y ∈ ins l x ↔ y ∈ l ∨ y = x := by
  induction l with
  | nil => simp [ins]
  | cons a r ih =>
    unfold ins
    split
    · simp [ih, or_assoc]
    · split
      · rename_i e; subst e; simp; intro h; exact .inl h
      · simp only [List.mem_cons]
        constructor
        · rintro (h | h | h)
          · exact .inr h
          · exact .inl (.inl h)
          · exact .inl (.inr h)
        · rintro ((h | h) | h)
          · exact .inr (.inl h)
          · exact .inr (.inr h)
          · exact .inl h
theorem ins_srt {l : List Int} {x : Int} (h : Srt l) : Srt (ins l x) := by
  induction l with
  | nil => simp [ins, Srt]
  | cons a r ih =>
    unfold Srt at h ih ⊢
    rw [List.pairwise_cons] at h
    unfold ins
    split
    · rename_i hlt
      rw [List.pairwise_cons]
      refine ⟨fun y hy => ?_, ih h.2⟩
      rcases (ins_mem r x y).1 hy with hy | rfl
      · exact h.1 y hy
      · exact hlt
    · split
      · rw [List.pairwise_cons]; exact h
      · rw [List.pairwise_cons, List.pairwise_cons]
        refine ⟨fun y hy => ?_, h⟩
        simp only [List.mem_cons] at hy
        rcases hy with rfl | hy
        · omega
        · have := h.1 y hy; omega
/-- Where it is put: the place ahead of which all are less. -/
theorem ins_at {l : List Int} {x : Int} : ∀ (p : Nat), p ≤ l.length → (∀ j (h : j < l.length), j < p → l[j] < x) → (∀ h : p < l.length, ¬ l[p] < x) →
    ins l x = if (∃ h : p < l.length, l[p] = x) then l else l.take p ++ [x] ++ l.drop p := by
  induction l with
  | nil => intro p hp _ _; simp [ins]
  | cons a r ih =>
    intro p hp h1 h2
    cases p with
    | zero =>
      have h0 := h2 (by simp)
      simp only [List.getElem_cons_zero] at h0
      unfold ins
      rw [if_neg h0]
      by_cases e : a = x
      · rw [if_pos e, if_pos ⟨by simp, by simpa using e⟩]
      · rw [if_neg e, if_neg (by rintro ⟨_, e'⟩; exact e (by simpa using e'))]; simp
    | succ p =>
      have h0 := h1 0 (by simp) (by omega)
      simp only [List.getElem_cons_zero] at h0
      unfold ins
      rw [if_pos h0, ih p (by simpa using hp) (fun j h hj => by have := h1 (j + 1) (by simpa using h) (by omega); simpa using this) (fun h => by have := h2 (by simpa using h); simpa using this)]
      by_cases e : ∃ h : p < r.length, r[p] = x
      · rw [if_pos e, if_pos (by obtain ⟨h, e⟩ := e; exact ⟨by simpa using h, by simpa using e⟩)]
      · rw [if_neg e, if_neg (by rintro ⟨h, e'⟩; exact e ⟨by simpa using h, by simpa using e'⟩)]; simp
def srt (l : List Int) : List Int := l.foldl ins []
theorem srt_take {l : List Int} {k : Nat} (h : k < l.length) : srt (l.take (k + 1)) = ins (srt (l.take k)) l[k] := by
  unfold srt
  rw [List.take_succ_eq_append_getElem h, List.foldl_append]; rfl
theorem foldl_mem (l : List Int) : ∀ (m : List Int) (y : Int), y ∈ l.foldl ins m ↔ y ∈ m ∨ y ∈ l := by
  induction l with
  | nil => simp
  | cons a r ih => intro m y; rw [List.foldl_cons, ih, ins_mem]; simp only [List.mem_cons, or_assoc]
theorem foldl_srt (l : List Int) : ∀ (m : List Int), Srt m → Srt (l.foldl ins m) := by
  induction l with
  | nil => intro m h; exact h
  | cons a r ih => intro m h; exact ih _ (ins_srt h)
theorem srt_mem {l : List Int} {y : Int} : y ∈ srt l ↔ y ∈ l := by unfold srt; rw [foldl_mem]; simp
theorem srt_srt (l : List Int) : Srt (srt l) := foldl_srt l [] (by simp [Srt])
theorem ins_len (l : List Int) (x : Int) : (ins l x).length ≤ l.length + 1 := by
  induction l with
  | nil => simp [ins]
  | cons a r ih => unfold ins; split <;> (try split) <;> simp <;> omega
theorem foldl_len (l : List Int) : ∀ (m : List Int), (l.foldl ins m).length ≤ m.length + l.length := by
  induction l with
  | nil => simp
  | cons a r ih => intro m; rw [List.foldl_cons]; have := ih (ins m a); have := ins_len m a; simp only [List.length_cons]; omega
theorem srt_len (l : List Int) : (srt l).length ≤ l.length := by have := foldl_len l []; simpa [srt] using this
theorem srt_ext : ∀ {l m : List Int}, Srt l → Srt m → (∀ x, x ∈ l ↔ x ∈ m) → l = m
  | [], [], _, _, _ => rfl
  | [], b :: m, _, _, h => by have := (h b).2 (by simp); cases this
  | a :: l, [], _, _, h => by have := (h a).1 (by simp); cases this
  | a :: l, b :: m, hl, hm, h => by
    unfold Srt at hl hm
    rw [List.pairwise_cons] at hl hm
    have e : a = b := by
      rcases List.mem_cons.1 ((h a).1 (by simp)) with e | h1
      · exact e
      · rcases List.mem_cons.1 ((h b).2 (by simp)) with e | h2
        · exact e.symm
        · have := hm.1 a h1; have := hl.1 b h2; omega
    subst e
    congr 1
    refine srt_ext hl.2 hm.2 (fun x => ⟨fun hx => ?_, fun hx => ?_⟩)
    · rcases List.mem_cons.1 ((h x).1 (List.mem_cons_of_mem _ hx)) with e | h1
      · have := hl.1 x hx; omega
      · exact h1
    · rcases List.mem_cons.1 ((h x).2 (List.mem_cons_of_mem _ hx)) with e | h1
      · have := hm.1 x hx; omega
      · exact h1
theorem srt_uniq {l m : List Int} (hm : Srt m) (h : ∀ x, x ∈ m ↔ x ∈ l) : m = srt l := srt_ext hm (srt_srt l) (fun x => by rw [h x, srt_mem])

/-- The place of the j-th of the borders (from 0 on) among v of m. -/
def plc (m most j : Nat) : Nat := (j + 1) * m / (most + 1) - 1
theorem plc_pos {m most j : Nat} (h : most + 1 < m) : 0 < (j + 1) * m / (most + 1) := by
  apply Nat.div_pos _ (by omega)
  have : 1 * m ≤ (j + 1) * m := Nat.mul_le_mul_right _ (by omega)
  omega
theorem plc_le {m most j : Nat} (hj : j < most) : (j + 1) * m / (most + 1) ≤ m := by
  apply Nat.div_le_of_le_mul
  rw [Nat.mul_comm (most + 1) m, Nat.mul_comm (j + 1) m]
  exact Nat.mul_le_mul_left _ (by omega)
theorem plc_lt {m most j : Nat} (h : most + 1 < m) (hj : j < most) : (j + 1) * m / (most + 1) < m := by
  apply (Nat.div_lt_iff_lt_mul (by omega)).2
  rw [Nat.mul_comm m (most + 1)]
  exact Nat.mul_lt_mul_of_pos_right (by omega) (by omega)
theorem plc_step {m most i : Nat} (h : most + 1 < m) : (i + 1) * m / (most + 1) < (i + 1 + 1) * m / (most + 1) := by
  have e : (i + 1 + 1) * m = (i + 1) * m + m := by rw [Nat.succ_mul (i + 1)]
  have h1 : ((i + 1) * m + (most + 1)) / (most + 1) ≤ ((i + 1) * m + m) / (most + 1) := Nat.div_le_div_right (by omega)
  rw [Nat.add_div_right _ (by omega)] at h1
  rw [e]; omega
theorem plc_mono {m most : Nat} (h : most + 1 < m) : ∀ (j i : Nat), i < j → (i + 1) * m / (most + 1) < (j + 1) * m / (most + 1)
  | 0, i, hij => by omega
  | j + 1, i, hij => by
    have h1 := plc_step (i := j) h
    by_cases e : i = j
    · subst e; exact h1
    · have := plc_mono h j i (by omega); omega
def cut (v : List Int) (most : Nat) : List Int := if v.length ≤ most + 1 then v.take (v.length - 1) else (List.range most).map fun j => v.getD (plc v.length most j) 0
def bor (l : List Int) (most : Int) : List Int := if l.length ≤ 1000 ∧ 0 ≤ most ∧ most ≤ 12 ∧ aok l = true then cut (srt l) most.toNat else []
theorem cut_few {v : List Int} {most : Nat} (h : v.length ≤ most + 1) : cut v most = v.take (v.length - 1) := if_pos h
theorem cut_many {v : List Int} {most : Nat} (h : ¬ v.length ≤ most + 1) : cut v most = (List.range most).map fun j => v.getD (plc v.length most j) 0 := if_neg h
theorem cut_len (v : List Int) (most : Nat) : (cut v most).length ≤ most := by
  unfold cut; split
  · simp; omega
  · simp
theorem bor_yes {l : List Int} {most : Int} (h : l.length ≤ 1000 ∧ 0 ≤ most ∧ most ≤ 12 ∧ aok l = true) : bor l most = cut (srt l) most.toNat := if_pos h
theorem bor_no {l : List Int} {most : Int} (h : ¬ (l.length ≤ 1000 ∧ 0 ≤ most ∧ most ≤ 12 ∧ aok l = true)) : bor l most = [] := if_neg h
theorem bor_len12 (l : List Int) (most : Int) : (bor l most).length ≤ 12 := by
  by_cases h : l.length ≤ 1000 ∧ 0 ≤ most ∧ most ≤ 12 ∧ aok l = true
  · rw [bor_yes h]; have := cut_len (srt l) most.toNat; omega
  · rw [bor_no h]; simp
/-- Each of the borders is one of v that is not the last. -/
theorem cut_get {v : List Int} {most k : Nat} (h : k < (cut v most).length) : ∃ (p : Nat) (hp : p + 1 < v.length), (cut v most)[k] = v[p] := by
  by_cases hf : v.length ≤ most + 1
  · have e := cut_few hf
    have hk : k < (v.take (v.length - 1)).length := by rw [← e]; exact h
    simp only [List.length_take] at hk
    refine ⟨k, by omega, ?_⟩
    simp [e]
  · have e := cut_many hf
    have hk : k < most := by rw [e] at h; simpa using h
    have h1 := plc_pos (j := k) (show most + 1 < v.length by omega)
    have h2 := plc_lt (show most + 1 < v.length by omega) hk
    refine ⟨plc v.length most k, by unfold plc; omega, ?_⟩
    simp only [e, List.getElem_map, List.getElem_range]
    rw [List.getD_eq_getElem?_getD, List.getElem?_eq_getElem (by unfold plc; omega)]; rfl
theorem cut_srt {v : List Int} {most : Nat} (hv : Srt v) : Srt (cut v most) := by
  by_cases hf : v.length ≤ most + 1
  · rw [cut_few hf]; exact List.Pairwise.take hv
  · unfold Srt
    rw [List.pairwise_iff_getElem]
    intro i j hi hj hij
    have hm : most + 1 < v.length := by omega
    have e := cut_many hf
    have hi' : i < most := by rw [e] at hi; simpa using hi
    have hj' : j < most := by rw [e] at hj; simpa using hj
    have hpi := plc_pos (j := i) hm
    have hpj := plc_lt hm hj'
    have hlt := plc_mono hm j i hij
    have hki : plc v.length most i < v.length := by unfold plc; omega
    have hkj : plc v.length most j < v.length := by unfold plc; omega
    simp only [e, List.getElem_map, List.getElem_range]
    rw [List.getD_eq_getElem?_getD, List.getElem?_eq_getElem hki, List.getD_eq_getElem?_getD, List.getElem?_eq_getElem hkj]
    simp only [Option.getD_some]
    exact (List.pairwise_iff_getElem.1 hv) _ _ hki hkj (by unfold plc; omega)
theorem bor_bok (l : List Int) (most : Int) : bok (bor l most) = true := by
  rw [bok_iff]
  refine ⟨bor_len12 l most, ?_, ?_⟩
  · by_cases h : l.length ≤ 1000 ∧ 0 ≤ most ∧ most ≤ 12 ∧ aok l = true
    · rw [bor_yes h]
      refine aok_to (fun j hj => ?_)
      obtain ⟨p, hp, e⟩ := cut_get hj
      rw [e]
      exact aok_iff.1 h.2.2.2 _ (srt_mem.1 (List.getElem_mem (by omega)))
    · rw [bor_no h]; rfl
  · by_cases h : l.length ≤ 1000 ∧ 0 ≤ most ∧ most ≤ 12 ∧ aok l = true
    · rw [bor_yes h]; exact cut_srt (srt_srt l)
    · rw [bor_no h]; simp [Srt]
theorem bor_yes_of {l : List Int} {most : Int} (h : ¬ (bor l most).length = 0) : l.length ≤ 1000 ∧ 0 ≤ most ∧ most ≤ 12 ∧ aok l = true := by
  apply Classical.byContradiction
  intro hh
  exact h (by rw [bor_no hh]; rfl)
theorem bor_mem {l : List Int} {most : Int} {k : Nat} (h : k < (bor l most).length) : (bor l most)[k] ∈ l := by
  have hh := bor_yes_of (l := l) (most := most) (by omega)
  have e := bor_yes hh
  obtain ⟨p, hp, e'⟩ := cut_get (v := srt l) (most := most.toNat) (k := k) (by rw [← e]; exact h)
  simp only [e, e']
  exact srt_mem.1 (List.getElem_mem (by omega))
/-- None of the borders is the greatest. -/
theorem bor_top {l : List Int} {most : Int} {k : Nat} (h : k < (bor l most).length) {t : Int} (ht : ∀ x ∈ l, x ≤ t) : (bor l most)[k] < t := by
  have hh := bor_yes_of (l := l) (most := most) (by omega)
  have e := bor_yes hh
  obtain ⟨p, hp, e'⟩ := cut_get (v := srt l) (most := most.toNat) (k := k) (by rw [← e]; exact h)
  simp only [e, e']
  have h1 := (List.pairwise_iff_getElem.1 (srt_srt l)) p (p + 1) (by omega) hp (by omega)
  have h2 := ht _ (srt_mem.1 (List.getElem_mem hp))
  omega
theorem bor_most {l : List Int} {most : Int} (h : ¬ (bor l most).length = 0) : ((bor l most).length : Int) ≤ most := by
  have hh := bor_yes_of h
  rw [bor_yes hh]
  have := cut_len (srt l) most.toNat
  omega
theorem srt_map (l : List Int) (d : Int) : srt (l.map (· + d)) = (srt l).map (· + d) := by
  symm
  refine srt_uniq ?_ (fun x => ?_)
  · unfold Srt
    rw [List.pairwise_map]
    exact (srt_srt l).imp (fun h => by omega)
  · simp only [List.mem_map, srt_mem]
theorem cut_map (v : List Int) (most : Nat) (d : Int) : cut (v.map (· + d)) most = (cut v most).map (· + d) := by
  by_cases hf : v.length ≤ most + 1
  · rw [cut_few (by simpa using hf), cut_few hf, List.map_take]; simp
  · rw [cut_many (by simpa using hf), cut_many hf, List.map_map]
    apply List.map_congr_left
    intro j hj
    have hj' : j < most := by simpa using hj
    have hm : most + 1 < v.length := by omega
    have hpj := plc_lt hm hj'
    have hkj : plc v.length most j < v.length := by unfold plc; omega
    simp [List.getD_eq_getElem?_getD, List.getElem?_eq_getElem hkj]
theorem bor_map {l : List Int} {most : Int} (d : Int) (h : l.length ≤ 1000 ∧ 0 ≤ most ∧ most ≤ 12 ∧ aok l = true) (h' : aok (l.map (· + d)) = true) : bor (l.map (· + d)) most = (bor l most).map (· + d) := by
  rw [bor_yes (l := l.map _) ⟨by simpa using h.1, h.2.1, h.2.2.1, h'⟩, bor_yes h, srt_map, cut_map]
end Go.Proofs.Ytcadgeepknhmfaa.Bo
