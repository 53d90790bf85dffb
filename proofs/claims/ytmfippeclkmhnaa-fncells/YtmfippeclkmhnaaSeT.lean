/-
  What cells come to: all rows, all that is still wrong; to ask parts each cell in two.
-/
import Derived.Test.YtmfippeclkmhnaaSea
namespace Go.Proofs.Ytmfippeclkmhnaa.Se

/-- The first k cells, counted; what they come to. -/
def sn (cs : List (Int × Int)) : Nat → Int
  | 0 => 0
  | k + 1 => sn cs k + (cs.getD k (0, 0)).1
def sg (cs : List (Int × Int)) : Nat → Int
  | 0 => 0
  | k + 1 => sg cs k + (cs.getD k (0, 0)).2
/-- The first k numbers together. -/
def sm (gs : List Int) : Nat → Int
  | 0 => 0
  | k + 1 => sm gs k + gs.getD k 0
theorem sn_none (n k : Nat) : sn (none0 n) k = 0 := by
  induction k with
  | zero => rfl
  | succ k ih => simp only [sn, ih, none0_get]; rfl
theorem sg_none (n k : Nat) : sg (none0 n) k = 0 := by
  induction k with
  | zero => rfl
  | succ k ih => simp only [sg, ih, none0_get]; rfl
theorem bump_get (cs : List (Int × Int)) (id g : Int) (k : Nat) (hk : k < cs.length) : (bump cs id g).getD k (0, 0) = if id.toNat = k then ((cs.getD k (0, 0)).1 + 1, (cs.getD k (0, 0)).2 + g) else cs.getD k (0, 0) := by
  simp only [bump, List.getD_eq_getElem?_getD, List.getElem?_set]
  by_cases e : id.toNat = k
  · subst e; simp [hk]
  · simp [e]
theorem sn_bump (cs : List (Int × Int)) (id g : Int) (k : Nat) (hk : k ≤ cs.length) : sn (bump cs id g) k = sn cs k + (if id.toNat < k then 1 else 0) := by
  induction k with
  | zero => simp [sn]
  | succ k ih =>
    simp only [sn]
    rw [ih (by omega), bump_get _ _ _ _ (by omega)]
    by_cases e : id.toNat = k
    · subst e; simp
      omega
    · rw [if_neg e]
      by_cases h : id.toNat < k
      · rw [if_pos h, if_pos (by omega)]; omega
      · rw [if_neg h, if_neg (by omega)]; omega
theorem sg_bump (cs : List (Int × Int)) (id g : Int) (k : Nat) (hk : k ≤ cs.length) : sg (bump cs id g) k = sg cs k + (if id.toNat < k then g else 0) := by
  induction k with
  | zero => simp [sg]
  | succ k ih =>
    simp only [sg]
    rw [ih (by omega), bump_get _ _ _ _ (by omega)]
    by_cases e : id.toNat = k
    · subst e; simp
      omega
    · rw [if_neg e]
      by_cases h : id.toNat < k
      · rw [if_pos h, if_pos (by omega)]; omega
      · rw [if_neg h, if_neg (by omega)]; omega
theorem sn_tally (ids gs : List Int) (n j : Nat) (h : ∀ i, i < j → (ids.getD i 0).toNat < n) : sn (tally ids gs (none0 n) j) n = j := by
  induction j with
  | zero => simp [tally, sn_none]
  | succ j ih =>
    simp only [tally]
    rw [sn_bump _ _ _ _ (by rw [tally_length, none0_length]; omega), ih (fun i hi => h i (by omega)), if_pos (h j (by omega))]
    omega
theorem sg_tally (ids gs : List Int) (n j : Nat) (h : ∀ i, i < j → (ids.getD i 0).toNat < n) : sg (tally ids gs (none0 n) j) n = sm gs j := by
  induction j with
  | zero => simp [tally, sg_none, sm]
  | succ j ih =>
    simp only [tally, sm]
    rw [sg_bump _ _ _ _ (by rw [tally_length, none0_length]; omega), ih (fun i hi => h i (by omega)), if_pos (h j (by omega))]
/-- Of rows that are right: as many cells as leaves, all rows, all that is wrong. -/
theorem rok_ids {r : R} (h : rok r = true) : ∀ i, i < r.ids.length → (r.ids.getD i 0).toNat < r.lv.toNat := fun i hi => by
  obtain ⟨hs, hr⟩ := rok_iff.1 h
  have := (hr i (by have := hs.2.2.1; omega)).2.2
  omega
theorem cells_len {r : R} (h : rok r = true) : ((cells r).length : Int) = r.lv := by
  rw [cells_ok h, tally_length, none0_length]
  have := (rok_iff.1 h).1.2.2.2.1
  omega
theorem cells_sn {r : R} (h : rok r = true) : sn (cells r) (cells r).length = r.x.length := by
  have e : (cells r).length = r.lv.toNat := by rw [cells_ok h, tally_length, none0_length]
  rw [e, cells_ok h, sn_tally _ _ _ _ (rok_ids h)]
  have := (rok_iff.1 h).1.2.2.1
  omega
theorem cells_sg {r : R} (h : rok r = true) : sg (cells r) (cells r).length = sm r.g r.g.length := by
  have e : (cells r).length = r.lv.toNat := by rw [cells_ok h, tally_length, none0_length]
  rw [e, cells_ok h, sg_tally _ _ _ _ (rok_ids h)]
  have h1 := (rok_iff.1 h).1.2.2.1
  have h2 := (rok_iff.1 h).1.2.1
  rw [h1, h2]
/-- Where some of the rows of a cell are led on by n, its parts make it up. -/
theorem cnt_part (ids jds : List Int) (n k j : Nat) (hk : k < n) (h : ∀ i, i < j → 0 ≤ ids.getD i 0 ∧ ids.getD i 0 < n ∧ (jds.getD i 0 = ids.getD i 0 ∨ jds.getD i 0 = ids.getD i 0 + n)) : cnt jds k j + cnt jds (k + n) j = cnt ids k j := by
  induction j with
  | zero => simp [cnt]
  | succ j ih =>
    have hi := ih (fun i hi => h i (by omega))
    obtain ⟨h0, h1, h2⟩ := h j (by omega)
    simp only [cnt]
    by_cases e : (ids.getD j 0).toNat = k
    · rw [if_pos e]
      rcases h2 with e2 | e2
      · rw [if_pos (by rw [e2]; exact e), if_neg (by rw [e2]; omega)]; omega
      · rw [if_neg (by rw [e2]; omega), if_pos (by rw [e2]; omega)]; omega
    · rw [if_neg e]
      rcases h2 with e2 | e2
      · rw [if_neg (by rw [e2]; exact e), if_neg (by rw [e2]; omega)]; omega
      · rw [if_neg (by rw [e2]; omega), if_neg (by rw [e2]; omega)]; omega
theorem smg_part (ids jds gs : List Int) (n k j : Nat) (hk : k < n) (h : ∀ i, i < j → 0 ≤ ids.getD i 0 ∧ ids.getD i 0 < n ∧ (jds.getD i 0 = ids.getD i 0 ∨ jds.getD i 0 = ids.getD i 0 + n)) : smg jds gs k j + smg jds gs (k + n) j = smg ids gs k j := by
  induction j with
  | zero => simp [smg]
  | succ j ih =>
    have hi := ih (fun i hi => h i (by omega))
    obtain ⟨h0, h1, h2⟩ := h j (by omega)
    simp only [smg]
    by_cases e : (ids.getD j 0).toNat = k
    · rw [if_pos e]
      rcases h2 with e2 | e2
      · rw [if_pos (by rw [e2]; exact e), if_neg (by rw [e2]; omega)]; omega
      · rw [if_neg (by rw [e2]; omega), if_pos (by rw [e2]; omega)]; omega
    · rw [if_neg e]
      rcases h2 with e2 | e2
      · rw [if_neg (by rw [e2]; exact e), if_neg (by rw [e2]; omega)]; omega
      · rw [if_neg (by rw [e2]; omega), if_neg (by rw [e2]; omega)]; omega
theorem cells_cok {r : R} (h : rok r = true) : ∀ c ∈ cells r, cok c := fun c hc => by
  obtain ⟨k, hk, rfl⟩ := List.mem_iff_getElem.1 hc
  obtain ⟨hs, hr⟩ := rok_iff.1 h
  have hg : ∀ i, i < r.ids.length → -2000000 ≤ r.g.getD i 0 ∧ r.g.getD i 0 ≤ 2000000 := fun i hi => (hr i (by have := hs.2.2.1; omega)).2.1
  have := tally_cok r.ids r.g r.lv.toNat r.ids.length (by have := hs.1; have := hs.2.2.1; omega) hg
  have e := cells_ok h
  simp only [e] at hk ⊢
  exact this k hk
/-- What is still wrong, put together, is bounded. -/
theorem sm_range (gs : List Int) (k : Nat) (h : ∀ i, i < k → -2000000 ≤ gs.getD i 0 ∧ gs.getD i 0 ≤ 2000000) : -2000000 * (k : Int) ≤ sm gs k ∧ sm gs k ≤ 2000000 * (k : Int) := by
  induction k with
  | zero => simp [sm]
  | succ k ih =>
    have h1 := ih (fun i hi => h i (by omega))
    have h2 := h k (by omega)
    simp only [sm]
    omega
theorem cells_get {r : R} (h : rok r = true) (k : Nat) (hk : k < r.lv.toNat) : (cells r).getD k (0, 0) = (cnt r.ids k r.ids.length, smg r.ids r.g k r.ids.length) := by
  rw [cells_ok h, tally0_get _ _ _ _ _ hk]
theorem parts {r : R} {f : Int} (b : Int) (h : can r f = true) (k : Nat) (hk : k < (cells r).length) :
    ((cells (asked r f b)).getD k (0, 0)).1 + ((cells (asked r f b)).getD (k + (cells r).length) (0, 0)).1 = ((cells r).getD k (0, 0)).1 ∧
    ((cells (asked r f b)).getD k (0, 0)).2 + ((cells (asked r f b)).getD (k + (cells r).length) (0, 0)).2 = ((cells r).getD k (0, 0)).2 := by
  obtain ⟨hro, h8, _⟩ := can_iff.1 h
  have hrk := rok_iff.2 hro
  have hl := cells_len hrk
  obtain ⟨⟨s1, s2, s3, s4, s5⟩, hr⟩ := hro
  have ha := asked_rok b h
  have hq := asked_ok b h
  have hql : (asked r f b).lv = 2 * r.lv := by rw [hq]
  have hqi : (asked r f b).ids = idsA r f b := by rw [hq]
  have hqg : (asked r f b).g = r.g := by rw [hq]
  rw [cells_get ha k (by omega), cells_get ha (k + (cells r).length) (by omega), cells_get hrk k (by omega)]
  have hil : (idsA r f b).length = r.ids.length := by rw [idsA_length]; omega
  have hall : ∀ i, i < r.ids.length → 0 ≤ r.ids.getD i 0 ∧ r.ids.getD i 0 < ((cells r).length : Nat) ∧ ((idsA r f b).getD i 0 = r.ids.getD i 0 ∨ (idsA r f b).getD i 0 = r.ids.getD i 0 + ((cells r).length : Nat)) := fun i hi => by
    have h3 := (hr i (by omega)).2.2
    refine ⟨h3.1, by omega, ?_⟩
    rw [idsA_get r f b i (by omega), hl]
    unfold idA
    split
    · exact .inr rfl
    · exact .inl rfl
  rw [hqi, hqg, hil]
  exact ⟨cnt_part _ _ _ _ _ hk hall, smg_part _ _ _ _ _ _ hk hall⟩
theorem parts_len {r : R} {f : Int} (b : Int) (h : can r f = true) : (cells (asked r f b)).length = 2 * (cells r).length := by
  have h1 := cells_len (asked_rok b h)
  have h2 := cells_len (rok_iff.2 (can_iff.1 h).1)
  rw [asked_ok b h] at h1 ⊢
  simp only at h1
  omega
end Go.Proofs.Ytmfippeclkmhnaa.Se
