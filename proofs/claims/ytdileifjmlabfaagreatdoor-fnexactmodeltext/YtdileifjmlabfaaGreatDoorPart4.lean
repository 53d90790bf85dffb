/-
  Contracts that the proof leans on, put together in the order in which they build.
-/
import Derived.Test.YtdileifjmlabfaaGreatDoorPart1
/-
  Borders and bins, as plain functions on lists of numbers; what follows of them.
-/
namespace Go.Proofs.YtdileifjmlabfaaGreatDoor.Bo
open Go.RowKit

def fok (x : Int) : Bool := decide (-1000000000 ≤ x ∧ x ≤ 1000000000)
theorem fok_iff {x : Int} : fok x = true ↔ (-1000000000 ≤ x ∧ x ≤ 1000000000) := by simp [fok]
def aok (l : List Int) : Bool := l.all fok
theorem aok_iff {l : List Int} : aok l = true ↔ ∀ x ∈ l, fok x = true := by simp [aok]
theorem aok_to {l : List Int} (h : ∀ j (hj : j < l.length), fok l[j] = true) : aok l = true := by
  rw [aok_iff]; intro x hx
  obtain ⟨j, hj, rfl⟩ := List.getElem_of_mem hx
  exact h j hj
theorem aok_at {l : List Int} (h : aok l = true) (j : Nat) (hj : j < l.length) : fok l[j] = true := aok_iff.1 h _ (List.getElem_mem hj)
theorem aok_no {l : List Int} {j : Nat} (hj : j < l.length) (h : fok l[j] = false) : aok l = false := by
  cases e : aok l with
  | false => rfl
  | true => rw [aok_at e j hj] at h; cases h

/-- How many of b are less than x. -/
def bin (b : List Int) (x : Int) : Nat := (b.filter (fun y => decide (y < x))).length
theorem bin_take (b : List Int) (x : Int) (k : Nat) (h : k < b.length) : bin (b.take (k + 1)) x = bin (b.take k) x + (if b[k] < x then 1 else 0) := by
  unfold bin
  rw [List.take_succ_eq_append_getElem h, List.filter_append, List.length_append]
  congr 1
  by_cases hx : b[k] < x <;> simp [hx]
theorem bin_yes {b : List Int} {x : Int} {k : Nat} (h : k < b.length) (hx : b[k] < x) : bin (b.take (k + 1)) x = bin (b.take k) x + 1 := by rw [bin_take b x k h, if_pos hx]
theorem bin_no {b : List Int} {x : Int} {k : Nat} (h : k < b.length) (hx : ¬ b[k] < x) : bin (b.take (k + 1)) x = bin (b.take k) x := by rw [bin_take b x k h, if_neg hx]; rfl
theorem bin_le (b : List Int) (x : Int) : bin b x ≤ b.length := List.length_filter_le _ _
theorem bin_mono (b : List Int) {x y : Int} (h : x ≤ y) : bin b x ≤ bin b y := by
  unfold bin
  induction b with
  | nil => simp
  | cons a r ih =>
    simp only [List.filter_cons]
    by_cases h1 : a < x
    · have h2 : a < y := by omega
      simp [h1, h2]; omega
    · by_cases h2 : a < y <;> simp [h1, h2] <;> omega
def Srt (b : List Int) : Prop := b.Pairwise (fun x y => x < y)
theorem bin_none {b : List Int} {x : Int} (h : ∀ y ∈ b, ¬ y < x) : bin b x = 0 := by
  unfold bin
  rw [List.length_eq_zero_iff, List.filter_eq_nil_iff]
  intro y hy; simpa using h y hy
theorem bin_at {b : List Int} (hs : Srt b) (x : Int) : ∀ (n : Nat) (h : n < b.length), b[n] < x ↔ n < bin b x := by
  induction b with
  | nil => intro n h; simp at h
  | cons a r ih =>
    intro n h
    unfold Srt at hs
    rw [List.pairwise_cons] at hs
    by_cases ha : a < x
    · have e : bin (a :: r) x = bin r x + 1 := by unfold bin; simp [ha]
      rw [e]
      cases n with
      | zero => simp [ha]
      | succ n =>
        have := ih hs.2 n (by simpa using h)
        rw [List.getElem_cons_succ, this]; omega
    · have e : bin (a :: r) x = bin r x := by unfold bin; simp [ha]
      have e0 : bin r x = 0 := bin_none (fun y hy => by have := hs.1 y hy; omega)
      rw [e, e0]
      cases n with
      | zero => simp [ha]
      | succ n =>
        have hn : n < r.length := by simpa using h
        have := hs.1 r[n] (List.getElem_mem hn)
        rw [List.getElem_cons_succ]; omega
def bins (b l : List Int) : List Int := l.map fun x => (bin b x : Int)
theorem bins_length (b l : List Int) : (bins b l).length = l.length := by simp [bins]
theorem bins_get (b l : List Int) (j : Nat) (h : j < (bins b l).length) : (bins b l)[j] = (bin b (l[j]'(by rwa [bins_length] at h)) : Int) := by simp [bins]

/-- Each is less than the next, as far as the place k. -/
def Adj (b : List Int) (k : Nat) : Prop := ∀ j (h : j + 1 < b.length), j + 1 < k → b[j] < b[j + 1]
theorem adj_srt {b : List Int} (h : Adj b b.length) : Srt b := by
  unfold Srt
  rw [List.pairwise_iff_getElem]
  intro i j hi hj hij
  induction j with
  | zero => omega
  | succ j ih =>
    have h1 := h j hj hj
    by_cases e : i = j
    · subst e; exact h1
    · have := ih (by omega) (by omega); omega
theorem srt_adj {b : List Int} (h : Srt b) (k : Nat) : Adj b k := by
  intro j hj _
  exact (List.pairwise_iff_getElem.1 h) j (j + 1) (by omega) hj (by omega)
theorem adj_zero (b : List Int) : Adj b 0 := fun j _ h => by omega
theorem adj_one (b : List Int) : Adj b 1 := fun j _ h => by omega
theorem adj_succ {b : List Int} {k : Nat} (h : Adj b k) (hk : k < b.length) (hs : 0 < k → b[k - 1] < b[k]) : Adj b (k + 1) := by
  intro j hj hjk
  by_cases e : j + 1 = k
  · subst e; simpa using hs (by omega)
  · exact h j hj (by omega)
noncomputable def bok (b : List Int) : Bool := @decide (b.length ≤ 12 ∧ aok b = true ∧ Srt b) (Classical.propDecidable _)
theorem bok_iff {b : List Int} : bok b = true ↔ (b.length ≤ 12 ∧ aok b = true ∧ Srt b) := by unfold bok; simp
theorem bok_false {b : List Int} (h : ¬ (b.length ≤ 12 ∧ aok b = true ∧ Srt b)) : bok b = false := by
  cases e : bok b with
  | false => rfl
  | true => exact absurd (bok_iff.1 e) h
theorem bok_long {b : List Int} (h : 12 < b.length) : bok b = false := bok_false (fun hh => by omega)
theorem bok_bad {b : List Int} {j : Nat} (hj : j < b.length) (h : fok b[j] = false) : bok b = false := bok_false (fun hh => by rw [aok_at hh.2.1 j hj] at h; cases h)
theorem bok_nok {b : List Int} (h : aok b = false) : bok b = false := bok_false (fun hh => by rw [hh.2.1] at h; cases h)
theorem bok_fall {b : List Int} {j : Nat} (hj : j + 1 < b.length) (h : ¬ b[j] < b[j + 1]) : bok b = false := bok_false (fun hh => h (srt_adj hh.2.2 (j + 2) j hj (by omega)))
theorem bok_all {b : List Int} (h0 : b.length ≤ 12) (h1 : aok b = true) (h2 : Adj b b.length) : bok b = true := bok_iff.2 ⟨h0, h1, adj_srt h2⟩

/-- A number put into a rising list, where it is not there. -/
def ins : List Int → Int → List Int
  | [], x => [x]
  | y :: r, x => if y < x then y :: ins r x else if y = x then y :: r else x :: y :: r
theorem ins_mem (l : List Int) (x y : Int) : y ∈ ins l x ↔ y ∈ l ∨ y = x := by
  induction l with
  | nil => simp [ins]
  | cons a r ih =>
    unfold ins
    split
    · simp [ih, or_assoc]
    · split
      · rename_i e; subst e; simp; intro h; exact .inl h
      · simp only [List.mem_cons]
        constructor
        · rintro (h | h | h)
          · exact .inr h
          · exact .inl (.inl h)
          · exact .inl (.inr h)
        · rintro ((h | h) | h)
          · exact .inr (.inl h)
          · exact .inr (.inr h)
          · exact .inl h
theorem ins_srt {l : List Int} {x : Int} (h : Srt l) : Srt (ins l x) := by
  induction l with
  | nil => simp [ins, Srt]
  | cons a r ih =>
    unfold Srt at h ih ⊢
    rw [List.pairwise_cons] at h
    unfold ins
    split
    · rename_i hlt
      rw [List.pairwise_cons]
      refine ⟨fun y hy => ?_, ih h.2⟩
      rcases (ins_mem r x y).1 hy with hy | rfl
      · exact h.1 y hy
      · exact hlt
    · split
      · rw [List.pairwise_cons]; exact h
      · rw [List.pairwise_cons, List.pairwise_cons]
        refine ⟨fun y hy => ?_, h⟩
        simp only [List.mem_cons] at hy
        rcases hy with rfl | hy
        · omega
        · have := h.1 y hy; omega
/-- Where it is put: the place ahead of which all are less. -/
theorem ins_at {l : List Int} {x : Int} : ∀ (p : Nat), p ≤ l.length → (∀ j (h : j < l.length), j < p → l[j] < x) → (∀ h : p < l.length, ¬ l[p] < x) →
    ins l x = if (∃ h : p < l.length, l[p] = x) then l else l.take p ++ [x] ++ l.drop p := by
  induction l with
  | nil => intro p hp _ _; simp [ins]
  | cons a r ih =>
    intro p hp h1 h2
    cases p with
    | zero =>
      have h0 := h2 (by simp)
      simp only [List.getElem_cons_zero] at h0
      unfold ins
      rw [if_neg h0]
      by_cases e : a = x
      · rw [if_pos e, if_pos ⟨by simp, by simpa using e⟩]
      · rw [if_neg e, if_neg (by rintro ⟨_, e'⟩; exact e (by simpa using e'))]; simp
    | succ p =>
      have h0 := h1 0 (by simp) (by omega)
      simp only [List.getElem_cons_zero] at h0
      unfold ins
      rw [if_pos h0, ih p (by simpa using hp) (fun j h hj => by have := h1 (j + 1) (by simpa using h) (by omega); simpa using this) (fun h => by have := h2 (by simpa using h); simpa using this)]
      by_cases e : ∃ h : p < r.length, r[p] = x
      · rw [if_pos e, if_pos (by obtain ⟨h, e⟩ := e; exact ⟨by simpa using h, by simpa using e⟩)]
      · rw [if_neg e, if_neg (by rintro ⟨h, e'⟩; exact e ⟨by simpa using h, by simpa using e'⟩)]; simp
def srt (l : List Int) : List Int := l.foldl ins []
theorem srt_take {l : List Int} {k : Nat} (h : k < l.length) : srt (l.take (k + 1)) = ins (srt (l.take k)) l[k] := by
  unfold srt
  rw [List.take_succ_eq_append_getElem h, List.foldl_append]; rfl
theorem foldl_mem (l : List Int) : ∀ (m : List Int) (y : Int), y ∈ l.foldl ins m ↔ y ∈ m ∨ y ∈ l := by
  induction l with
  | nil => simp
  | cons a r ih => intro m y; rw [List.foldl_cons, ih, ins_mem]; simp only [List.mem_cons, or_assoc]
theorem foldl_srt (l : List Int) : ∀ (m : List Int), Srt m → Srt (l.foldl ins m) := by
  induction l with
  | nil => intro m h; exact h
  | cons a r ih => intro m h; exact ih _ (ins_srt h)
theorem srt_mem {l : List Int} {y : Int} : y ∈ srt l ↔ y ∈ l := by unfold srt; rw [foldl_mem]; simp
theorem srt_srt (l : List Int) : Srt (srt l) := foldl_srt l [] (by simp [Srt])
theorem ins_len (l : List Int) (x : Int) : (ins l x).length ≤ l.length + 1 := by
  induction l with
  | nil => simp [ins]
  | cons a r ih => unfold ins; split <;> (try split) <;> simp <;> omega
theorem foldl_len (l : List Int) : ∀ (m : List Int), (l.foldl ins m).length ≤ m.length + l.length := by
  induction l with
  | nil => simp
  | cons a r ih => intro m; rw [List.foldl_cons]; have := ih (ins m a); have := ins_len m a; simp only [List.length_cons]; omega
theorem srt_len (l : List Int) : (srt l).length ≤ l.length := by have := foldl_len l []; simpa [srt] using this
theorem srt_ext : ∀ {l m : List Int}, Srt l → Srt m → (∀ x, x ∈ l ↔ x ∈ m) → l = m
  | [], [], _, _, _ => rfl
  | [], b :: m, _, _, h => by have := (h b).2 (by simp); cases this
  | a :: l, [], _, _, h => by have := (h a).1 (by simp); cases this
  | a :: l, b :: m, hl, hm, h => by
    unfold Srt at hl hm
    rw [List.pairwise_cons] at hl hm
    have e : a = b := by
      rcases List.mem_cons.1 ((h a).1 (by simp)) with e | h1
      · exact e
      · rcases List.mem_cons.1 ((h b).2 (by simp)) with e | h2
        · exact e.symm
        · have := hm.1 a h1; have := hl.1 b h2; omega
    subst e
    congr 1
    refine srt_ext hl.2 hm.2 (fun x => ⟨fun hx => ?_, fun hx => ?_⟩)
    · rcases List.mem_cons.1 ((h x).1 (List.mem_cons_of_mem _ hx)) with e | h1
      · have := hl.1 x hx; omega
      · exact h1
    · rcases List.mem_cons.1 ((h x).2 (List.mem_cons_of_mem _ hx)) with e | h1
      · have := hm.1 x hx; omega
      · exact h1
theorem srt_uniq {l m : List Int} (hm : Srt m) (h : ∀ x, x ∈ m ↔ x ∈ l) : m = srt l := srt_ext hm (srt_srt l) (fun x => by rw [h x, srt_mem])

/-- The place of the j-th of the borders (from 0 on) among v of m. -/
def plc (m most j : Nat) : Nat := (j + 1) * m / (most + 1) - 1
theorem plc_pos {m most j : Nat} (h : most + 1 < m) : 0 < (j + 1) * m / (most + 1) := by
  apply Nat.div_pos _ (by omega)
  have : 1 * m ≤ (j + 1) * m := Nat.mul_le_mul_right _ (by omega)
  omega
theorem plc_le {m most j : Nat} (hj : j < most) : (j + 1) * m / (most + 1) ≤ m := by
  apply Nat.div_le_of_le_mul
  rw [Nat.mul_comm (most + 1) m, Nat.mul_comm (j + 1) m]
  exact Nat.mul_le_mul_left _ (by omega)
theorem plc_lt {m most j : Nat} (h : most + 1 < m) (hj : j < most) : (j + 1) * m / (most + 1) < m := by
  apply (Nat.div_lt_iff_lt_mul (by omega)).2
  rw [Nat.mul_comm m (most + 1)]
  exact Nat.mul_lt_mul_of_pos_right (by omega) (by omega)
theorem plc_step {m most i : Nat} (h : most + 1 < m) : (i + 1) * m / (most + 1) < (i + 1 + 1) * m / (most + 1) := by
  have e : (i + 1 + 1) * m = (i + 1) * m + m := by rw [Nat.succ_mul (i + 1)]
  have h1 : ((i + 1) * m + (most + 1)) / (most + 1) ≤ ((i + 1) * m + m) / (most + 1) := Nat.div_le_div_right (by omega)
  rw [Nat.add_div_right _ (by omega)] at h1
  rw [e]; omega
theorem plc_mono {m most : Nat} (h : most + 1 < m) : ∀ (j i : Nat), i < j → (i + 1) * m / (most + 1) < (j + 1) * m / (most + 1)
  | 0, i, hij => by omega
  | j + 1, i, hij => by
    have h1 := plc_step (i := j) h
    by_cases e : i = j
    · subst e; exact h1
    · have := plc_mono h j i (by omega); omega
def cut (v : List Int) (most : Nat) : List Int := if v.length ≤ most + 1 then v.take (v.length - 1) else (List.range most).map fun j => v.getD (plc v.length most j) 0
def bor (l : List Int) (most : Int) : List Int := if l.length ≤ 1000 ∧ 0 ≤ most ∧ most ≤ 12 ∧ aok l = true then cut (srt l) most.toNat else []
theorem cut_few {v : List Int} {most : Nat} (h : v.length ≤ most + 1) : cut v most = v.take (v.length - 1) := if_pos h
theorem cut_many {v : List Int} {most : Nat} (h : ¬ v.length ≤ most + 1) : cut v most = (List.range most).map fun j => v.getD (plc v.length most j) 0 := if_neg h
theorem cut_len (v : List Int) (most : Nat) : (cut v most).length ≤ most := by
  unfold cut; split
  · simp; omega
  · simp
theorem bor_yes {l : List Int} {most : Int} (h : l.length ≤ 1000 ∧ 0 ≤ most ∧ most ≤ 12 ∧ aok l = true) : bor l most = cut (srt l) most.toNat := if_pos h
theorem bor_no {l : List Int} {most : Int} (h : ¬ (l.length ≤ 1000 ∧ 0 ≤ most ∧ most ≤ 12 ∧ aok l = true)) : bor l most = [] := if_neg h
theorem bor_len12 (l : List Int) (most : Int) : (bor l most).length ≤ 12 := by
  by_cases h : l.length ≤ 1000 ∧ 0 ≤ most ∧ most ≤ 12 ∧ aok l = true
  · rw [bor_yes h]; have := cut_len (srt l) most.toNat; omega
  · rw [bor_no h]; simp
/-- Each of the borders is one of v that is not the last. -/
theorem cut_get {v : List Int} {most k : Nat} (h : k < (cut v most).length) : ∃ (p : Nat) (hp : p + 1 < v.length), (cut v most)[k] = v[p] := by
  by_cases hf : v.length ≤ most + 1
  · have e := cut_few hf
    have hk : k < (v.take (v.length - 1)).length := by rw [← e]; exact h
    simp only [List.length_take] at hk
    refine ⟨k, by omega, ?_⟩
    simp [e]
  · have e := cut_many hf
    have hk : k < most := by rw [e] at h; simpa using h
    have h1 := plc_pos (j := k) (show most + 1 < v.length by omega)
    have h2 := plc_lt (show most + 1 < v.length by omega) hk
    refine ⟨plc v.length most k, by unfold plc; omega, ?_⟩
    simp only [e, List.getElem_map, List.getElem_range]
    rw [List.getD_eq_getElem?_getD, List.getElem?_eq_getElem (by unfold plc; omega)]; rfl
theorem cut_srt {v : List Int} {most : Nat} (hv : Srt v) : Srt (cut v most) := by
  by_cases hf : v.length ≤ most + 1
  · rw [cut_few hf]; exact List.Pairwise.take hv
  · unfold Srt
    rw [List.pairwise_iff_getElem]
    intro i j hi hj hij
    have hm : most + 1 < v.length := by omega
    have e := cut_many hf
    have hi' : i < most := by rw [e] at hi; simpa using hi
    have hj' : j < most := by rw [e] at hj; simpa using hj
    have hpi := plc_pos (j := i) hm
    have hpj := plc_lt hm hj'
    have hlt := plc_mono hm j i hij
    have hki : plc v.length most i < v.length := by unfold plc; omega
    have hkj : plc v.length most j < v.length := by unfold plc; omega
    simp only [e, List.getElem_map, List.getElem_range]
    rw [List.getD_eq_getElem?_getD, List.getElem?_eq_getElem hki, List.getD_eq_getElem?_getD, List.getElem?_eq_getElem hkj]
    simp only [Option.getD_some]
    exact (List.pairwise_iff_getElem.1 hv) _ _ hki hkj (by unfold plc; omega)
theorem bor_bok (l : List Int) (most : Int) : bok (bor l most) = true := by
  rw [bok_iff]
  refine ⟨bor_len12 l most, ?_, ?_⟩
  · by_cases h : l.length ≤ 1000 ∧ 0 ≤ most ∧ most ≤ 12 ∧ aok l = true
    · rw [bor_yes h]
      refine aok_to (fun j hj => ?_)
      obtain ⟨p, hp, e⟩ := cut_get hj
      rw [e]
      exact aok_iff.1 h.2.2.2 _ (srt_mem.1 (List.getElem_mem (by omega)))
    · rw [bor_no h]; rfl
  · by_cases h : l.length ≤ 1000 ∧ 0 ≤ most ∧ most ≤ 12 ∧ aok l = true
    · rw [bor_yes h]; exact cut_srt (srt_srt l)
    · rw [bor_no h]; simp [Srt]
theorem bor_yes_of {l : List Int} {most : Int} (h : ¬ (bor l most).length = 0) : l.length ≤ 1000 ∧ 0 ≤ most ∧ most ≤ 12 ∧ aok l = true := by
  apply Classical.byContradiction
  intro hh
  exact h (by rw [bor_no hh]; rfl)
theorem bor_mem {l : List Int} {most : Int} {k : Nat} (h : k < (bor l most).length) : (bor l most)[k] ∈ l := by
  have hh := bor_yes_of (l := l) (most := most) (by omega)
  have e := bor_yes hh
  obtain ⟨p, hp, e'⟩ := cut_get (v := srt l) (most := most.toNat) (k := k) (by rw [← e]; exact h)
  simp only [e, e']
  exact srt_mem.1 (List.getElem_mem (by omega))
/-- None of the borders is the greatest. -/
theorem bor_top {l : List Int} {most : Int} {k : Nat} (h : k < (bor l most).length) {t : Int} (ht : ∀ x ∈ l, x ≤ t) : (bor l most)[k] < t := by
  have hh := bor_yes_of (l := l) (most := most) (by omega)
  have e := bor_yes hh
  obtain ⟨p, hp, e'⟩ := cut_get (v := srt l) (most := most.toNat) (k := k) (by rw [← e]; exact h)
  simp only [e, e']
  have h1 := (List.pairwise_iff_getElem.1 (srt_srt l)) p (p + 1) (by omega) hp (by omega)
  have h2 := ht _ (srt_mem.1 (List.getElem_mem hp))
  omega
theorem bor_most {l : List Int} {most : Int} (h : ¬ (bor l most).length = 0) : ((bor l most).length : Int) ≤ most := by
  have hh := bor_yes_of h
  rw [bor_yes hh]
  have := cut_len (srt l) most.toNat
  omega
theorem srt_map (l : List Int) (d : Int) : srt (l.map (· + d)) = (srt l).map (· + d) := by
  symm
  refine srt_uniq ?_ (fun x => ?_)
  · unfold Srt
    rw [List.pairwise_map]
    exact (srt_srt l).imp (fun h => by omega)
  · simp only [List.mem_map, srt_mem]
theorem cut_map (v : List Int) (most : Nat) (d : Int) : cut (v.map (· + d)) most = (cut v most).map (· + d) := by
  by_cases hf : v.length ≤ most + 1
  · rw [cut_few (by simpa using hf), cut_few hf, List.map_take]; simp
  · rw [cut_many (by simpa using hf), cut_many hf, List.map_map]
    apply List.map_congr_left
    intro j hj
    have hj' : j < most := by simpa using hj
    have hm : most + 1 < v.length := by omega
    have hpj := plc_lt hm hj'
    have hkj : plc v.length most j < v.length := by unfold plc; omega
    simp [List.getD_eq_getElem?_getD, List.getElem?_eq_getElem hkj]
theorem bor_map {l : List Int} {most : Int} (d : Int) (h : l.length ≤ 1000 ∧ 0 ≤ most ∧ most ≤ 12 ∧ aok l = true) (h' : aok (l.map (· + d)) = true) : bor (l.map (· + d)) most = (bor l most).map (· + d) := by
  rw [bor_yes (l := l.map _) ⟨by simpa using h.1, h.2.1, h.2.2.1, h'⟩, bor_yes h, srt_map, cut_map]
end Go.Proofs.YtdileifjmlabfaaGreatDoor.Bo
/-
  Trees, as plain functions: which leaf, what a tree says, its nodes grown out, the walk over nodes, two questions changed; what follows of them.
-/
namespace Go.Proofs.YtdileifjmlabfaaGreatDoor.Tr
open Go.RowKit
open Go.Proofs.YtdileifjmlabfaaGreatDoor.Bo (fok aok)

/-- A tree: its questions (feature, border) and its leaves. -/
structure T where
  sp : List (Int × Int)
  lv : List Int
theorem T.ext' {t u : T} (h : t.sp = u.sp) (h' : t.lv = u.lv) : t = u := by cases t; cases u; simp_all

def spok (s : Int × Int) : Bool := decide (0 ≤ s.1 ∧ s.1 ≤ 5) && fok s.2
def tok (t : T) : Bool := decide (t.sp.length ≤ 4 ∧ t.lv.length = 2 ^ t.sp.length) && (t.sp.all spok && aok t.lv)
theorem tok_iff {t : T} : tok t = true ↔ (t.sp.length ≤ 4 ∧ t.lv.length = 2 ^ t.sp.length) ∧ t.sp.all spok = true ∧ aok t.lv = true := by simp [tok, and_assoc]
theorem tok_long {t : T} (h : 4 < t.sp.length) : tok t = false := by
  cases e : tok t with
  | false => rfl
  | true => have := (tok_iff.1 e).1.1; omega
theorem tok_leaves {t : T} (h : ¬ t.lv.length = 2 ^ t.sp.length) : tok t = false := by
  cases e : tok t with
  | false => rfl
  | true => exact absurd (tok_iff.1 e).1.2 h
theorem tok_bad {t : T} {k : Nat} (hk : k < t.sp.length) (h : spok t.sp[k] = false) : tok t = false := by
  cases e : tok t with
  | false => rfl
  | true =>
    have := (tok_iff.1 e).2.1
    rw [List.all_eq_true] at this
    rw [this _ (List.getElem_mem hk)] at h
    cases h
theorem tok_leaf {t : T} (h : aok t.lv = false) : tok t = false := by
  cases e : tok t with
  | false => rfl
  | true => rw [(tok_iff.1 e).2.2] at h; cases h
theorem tok_all {t : T} (h1 : t.sp.length ≤ 4) (h2 : t.lv.length = 2 ^ t.sp.length) (h3 : ∀ j (hj : j < t.sp.length), spok t.sp[j] = true) (h4 : aok t.lv = true) : tok t = true := by
  refine tok_iff.2 ⟨⟨h1, h2⟩, ?_, h4⟩
  rw [List.all_eq_true]
  intro s hs
  obtain ⟨j, hj, rfl⟩ := List.getElem_of_mem hs
  exact h3 j hj
theorem tok_sp {t : T} (h : tok t = true) (j : Nat) (hj : j < t.sp.length) : spok t.sp[j] = true := by
  have := (tok_iff.1 h).2.1
  rw [List.all_eq_true] at this
  exact this _ (List.getElem_mem hj)
theorem spok_iff {s : Int × Int} : spok s = true ↔ (0 ≤ s.1 ∧ s.1 ≤ 5) ∧ fok s.2 = true := by simp [spok]

/-- The k-th question answered. -/
def yes (sp : List (Int × Int)) (x : List Int) (k : Nat) : Bool := decide ((sp.getD k (0, 0)).2 < x.getD (sp.getD k (0, 0)).1.toNat 0)
theorem yes_at {sp : List (Int × Int)} {x : List Int} {k : Nat} (hk : k < sp.length) (hx : sp[k].1.toNat < x.length) : yes sp x k = decide (sp[k].2 < x[sp[k].1.toNat]) := by
  unfold yes
  simp [List.getD_eq_getElem?_getD, List.getElem?_eq_getElem hk, List.getElem?_eq_getElem hx]
/-- Question i counts 2 to the i. -/
def lf (y : Nat → Bool) : Nat → Nat
  | 0 => 0
  | k + 1 => lf y k + (if y k then 2 ^ k else 0)
theorem lf_yes {y : Nat → Bool} {k : Nat} (h : y k = true) : lf y (k + 1) = lf y k + 2 ^ k := by simp [lf, h]
theorem lf_no {y : Nat → Bool} {k : Nat} (h : y k = false) : lf y (k + 1) = lf y k := by simp [lf, h]
theorem lf_lt (y : Nat → Bool) (k : Nat) : lf y k < 2 ^ k := by
  induction k with
  | zero => simp [lf]
  | succ k ih => simp only [lf, Nat.pow_succ]; split <;> omega
def askb (t : T) (x : List Int) : Bool := tok t && decide (x.length = 6)
def leafOf (t : T) (x : List Int) : Nat := if askb t x then lf (yes t.sp x) t.sp.length else 0
def eval (t : T) (x : List Int) : Int := if askb t x then t.lv.getD (lf (yes t.sp x) t.sp.length) 0 else 0
theorem askb_iff {t : T} {x : List Int} : askb t x = true ↔ tok t = true ∧ x.length = 6 := by simp [askb]
theorem askb_tok {t : T} {x : List Int} (h : tok t = false) : askb t x = false := by simp [askb, h]
theorem askb_len {t : T} {x : List Int} (h : ¬ x.length = 6) : askb t x = false := by simp [askb, h]
theorem leafOf_no {t : T} {x : List Int} (h : askb t x = false) : leafOf t x = 0 := by simp [leafOf, h]
theorem leafOf_yes {t : T} {x : List Int} (h : askb t x = true) : leafOf t x = lf (yes t.sp x) t.sp.length := by simp [leafOf, h]
theorem eval_no {t : T} {x : List Int} (h : askb t x = false) : eval t x = 0 := by simp [eval, h]
theorem eval_yes {t : T} {x : List Int} (h : askb t x = true) : eval t x = t.lv.getD (lf (yes t.sp x) t.sp.length) 0 := by simp [eval, h]
theorem lf_in {t : T} {x : List Int} (h : tok t = true) : lf (yes t.sp x) t.sp.length < t.lv.length := by
  rw [(tok_iff.1 h).1.2]; exact lf_lt _ _
theorem eval_at {t : T} {x : List Int} (h : askb t x = true) : eval t x = t.lv[lf (yes t.sp x) t.sp.length]'(lf_in (askb_iff.1 h).1) := by
  rw [eval_yes h, List.getD_eq_getElem?_getD, List.getElem?_eq_getElem (lf_in (askb_iff.1 h).1)]; rfl
theorem eval_fok (t : T) (x : List Int) : fok (eval t x) = true := by
  cases h : askb t x with
  | false => rw [eval_no h]; decide
  | true => rw [eval_at h]; exact Bo.aok_at (tok_iff.1 (askb_iff.1 h).1).2.2 _ _
theorem leaf_le (t : T) (x : List Int) (h : tok t = true) : leafOf t x < t.lv.length := by
  unfold leafOf
  split
  · exact lf_in h
  · rw [(tok_iff.1 h).1.2]; exact Nat.pow_pos (by decide)

/-- A node that was grown out. -/
structure Nd where
  f : Int
  b : Int
  l : Int
  r : Int
  v : Int
def nd0 : Nd := ⟨0, 0, 0, 0, 0⟩
theorem Nd.ext' {m n : Nd} (h1 : m.f = n.f) (h2 : m.b = n.b) (h3 : m.l = n.l) (h4 : m.r = n.r) (h5 : m.v = n.v) : m = n := by cases m; cases n; simp_all
def nodeAt (t : T) (k n : Nat) : Nd :=
  if k = t.sp.length then ⟨0, 0, -1, -1, t.lv.getD n 0⟩
  else ⟨(t.sp.getD k (0, 0)).1, (t.sp.getD k (0, 0)).2, ((2 ^ (k + 1) - 1 + n : Nat) : Int), ((2 ^ (k + 1) - 1 + n + 2 ^ k : Nat) : Int), 0⟩
def level (g : Nat → Nat → Nd) (k : Nat) : List Nd := (List.range (2 ^ k)).map (g k)
def rows (g : Nat → Nat → Nd) : Nat → List Nd
  | 0 => []
  | k + 1 => rows g k ++ level g k
def grown (t : T) : List Nd := if tok t then rows (nodeAt t) (t.sp.length + 1) else []
theorem grown_no {t : T} (h : tok t = false) : grown t = [] := by simp [grown, h]
theorem grown_yes {t : T} (h : tok t = true) : grown t = rows (nodeAt t) (t.sp.length + 1) := by simp [grown, h]
theorem level_length (g : Nat → Nat → Nd) (k : Nat) : (level g k).length = 2 ^ k := by simp [level]
theorem rows_length (g : Nat → Nat → Nd) (k : Nat) : (rows g k).length = 2 ^ k - 1 := by
  induction k with
  | zero => rfl
  | succ k ih =>
    simp only [rows, List.length_append, ih, level_length, Nat.pow_succ]
    have := Nat.pow_pos (n := k) (show 0 < 2 by decide)
    omega
theorem rows_get (g : Nat → Nat → Nd) (K k n : Nat) (hk : k < K) (hn : n < 2 ^ k) : (rows g K)[2 ^ k - 1 + n]? = some (g k n) := by
  induction K with
  | zero => omega
  | succ K ih =>
    have hp := Nat.pow_pos (n := k) (show 0 < 2 by decide)
    by_cases e : k = K
    · subst e
      simp only [rows]
      rw [List.getElem?_append_right (by rw [rows_length]; omega), rows_length]
      rw [show 2 ^ k - 1 + n - (2 ^ k - 1) = n by omega]
      simp [level, hn]
    · have hlt : k + 1 ≤ K := by omega
      have h2 := Nat.pow_le_pow_right (show 0 < 2 by decide) hlt
      rw [Nat.pow_succ] at h2
      simp only [rows]
      rw [List.getElem?_append_left (by rw [rows_length]; omega)]
      exact ih (by omega)
theorem level_take (g : Nat → Nat → Nd) (k n : Nat) (hn : n < 2 ^ k) : (level g k).take (n + 1) = (level g k).take n ++ [g k n] := by
  rw [List.take_succ_eq_append_getElem (by rw [level_length]; exact hn)]
  simp [level]
theorem grown_length {t : T} (h : tok t = true) : (grown t).length = 2 * t.lv.length - 1 := by
  rw [grown_yes h, rows_length, (tok_iff.1 h).1.2, Nat.pow_succ]; omega
theorem grown_le (t : T) : (grown t).length ≤ 31 := by
  cases h : tok t with
  | false => rw [grown_no h]; simp
  | true =>
    rw [grown_yes h, rows_length]
    have := Nat.pow_le_pow_right (show 0 < 2 by decide) (show t.sp.length + 1 ≤ 5 by have := (tok_iff.1 h).1.1; omega)
    omega
/-- Nodes written one by one, each ahead of those behind it. -/
def lay (g : Nat → Nat → Nd) : Nat → Nat → Nat → List Nd → List Nd
  | 0, a, y, l => l.set (2 ^ a - 1 + y) (g a y)
  | f + 1, a, y, l => lay g f (a + 1) (y + 2 ^ a) (lay g f (a + 1) y (l.set (2 ^ a - 1 + y) (g a y)))
theorem lay_length (g : Nat → Nat → Nd) (f a y : Nat) (l : List Nd) : (lay g f a y l).length = l.length := by
  induction f generalizing a y l with
  | zero => simp [lay]
  | succ f ih => simp [lay, ih]
theorem lay_all (g : Nat → Nat → Nd) (d : Nat) (hd : d ≤ 4) (z : Nd) : lay g d 0 0 (List.replicate (2 * 2 ^ d - 1) z) = rows g (d + 1) := by
  match d, hd with
  | 0, _ => rfl
  | 1, _ => rfl
  | 2, _ => rfl
  | 3, _ => rfl
  | 4, _ => simp only [lay, rows, level, List.replicate, List.range, List.range.loop, List.set, List.map, Nat.reduceAdd, Nat.reduceMul, Nat.reducePow, Nat.reduceSub, List.cons_append, List.nil_append]
theorem lay_grown {t : T} (h : tok t = true) (z : Nd) : lay (nodeAt t) t.sp.length 0 0 (List.replicate (2 * t.lv.length - 1) z) = grown t := by
  rw [grown_yes h, (tok_iff.1 h).1.2]; exact lay_all _ _ (tok_iff.1 h).1.1 z

/-- A walk over nodes, with so many steps at most. -/
def leads (n : Nd) (at' : Nat) (count : Nat) : Bool := decide (((0 ≤ n.f ∧ n.f ≤ 5) ∧ ((at' : Int) + 1 ≤ n.l ∧ n.l ≤ (count : Int) - 1)) ∧ ((at' : Int) + 1 ≤ n.r ∧ n.r ≤ (count : Int) - 1))
def nxt (n : Nd) (x : List Int) : Nat := if n.b < x.getD n.f.toNat 0 then n.r.toNat else n.l.toNat
def wk (ns : List Nd) (x : List Int) : Nat → Nat → Int × Bool
  | 0, _ => (0, false)
  | s + 1, p =>
    if (ns.getD p nd0).l = -1 then ((ns.getD p nd0).v, true)
    else if leads (ns.getD p nd0) p ns.length then wk ns x s (nxt (ns.getD p nd0) x) else (0, false)
def walk (ns : List Nd) (x : List Int) : Int × Bool := if ns.length = 0 ∨ ¬ x.length = 6 then (0, false) else wk ns x ns.length 0
theorem leads_iff {n : Nd} {p c : Nat} : leads n p c = true ↔ ((0 ≤ n.f ∧ n.f ≤ 5) ∧ ((p : Int) + 1 ≤ n.l ∧ n.l ≤ (c : Int) - 1)) ∧ ((p : Int) + 1 ≤ n.r ∧ n.r ≤ (c : Int) - 1) := by simp [leads]
theorem nxt_lt {n : Nd} {p c : Nat} (x : List Int) (h : leads n p c = true) : p < nxt n x ∧ nxt n x < c := by
  have := leads_iff.1 h
  unfold nxt; split <;> omega
/-- More steps than there is way left change nothing. -/
theorem wk_more (ns : List Nd) (x : List Int) (s s' p : Nat) (h : ns.length ≤ s + p) (h' : ns.length ≤ s' + p) (hp : p < ns.length) : wk ns x s p = wk ns x s' p := by
  induction s generalizing s' p with
  | zero => omega
  | succ s ih =>
    cases s' with
    | zero => omega
    | succ s' =>
      simp only [wk]
      split
      · rfl
      · split
        · rename_i h2
          have := nxt_lt x h2
          exact ih s' _ (by omega) (by omega) (by omega)
        · rfl
theorem walk_no {ns : List Nd} {x : List Int} (h : ns.length = 0 ∨ ¬ x.length = 6) : walk ns x = (0, false) := by simp only [walk, if_pos h]
theorem walk_yes {ns : List Nd} {x : List Int} (h : ¬ ns.length = 0) (h' : x.length = 6) : walk ns x = wk ns x ns.length 0 := by simp only [walk]; rw [if_neg (by omega)]
theorem wk_end {ns : List Nd} {x : List Int} {s p : Nat} (hp : p < ns.length) (h : ns[p].l = -1) : wk ns x (s + 1) p = (ns[p].v, true) := by
  simp [wk, List.getD_eq_getElem?_getD, List.getElem?_eq_getElem hp, h]
theorem wk_bad {ns : List Nd} {x : List Int} {s p : Nat} (hp : p < ns.length) (h : ¬ ns[p].l = -1) (h' : leads ns[p] p ns.length = false) : wk ns x (s + 1) p = (0, false) := by
  simp [wk, List.getD_eq_getElem?_getD, List.getElem?_eq_getElem hp, h, h']
theorem wk_on {ns : List Nd} {x : List Int} {s p : Nat} (hp : p < ns.length) (h : ¬ ns[p].l = -1) (h' : leads ns[p] p ns.length = true) : wk ns x (s + 1) p = wk ns x s (nxt ns[p] x) := by
  simp [wk, List.getD_eq_getElem?_getD, List.getElem?_eq_getElem hp, h, h']
/-- Grown out, a tree says the same. -/
theorem wk_grown {t : T} {x : List Int} (h : tok t = true) (hx : x.length = 6) (s k : Nat) (hk : k ≤ t.sp.length) (hs : t.sp.length - k < s) :
    wk (grown t) x s (2 ^ k - 1 + lf (yes t.sp x) k) = (t.lv.getD (lf (yes t.sp x) t.sp.length) 0, true) := by
  induction s generalizing k with
  | zero => omega
  | succ s ih =>
    have hlt := lf_lt (yes t.sp x) k
    have hg := rows_get (nodeAt t) (t.sp.length + 1) k (lf (yes t.sp x) k) (by omega) hlt
    rw [← grown_yes h] at hg
    obtain ⟨hp, hg'⟩ := List.getElem?_eq_some_iff.1 hg
    have hlen := grown_yes h ▸ rows_length (nodeAt t) (t.sp.length + 1)
    by_cases e : k = t.sp.length
    · rw [wk_end hp (by rw [hg']; unfold nodeAt; rw [if_pos e]), hg']
      unfold nodeAt; rw [if_pos e, e]
    · have hk' : k < t.sp.length := by omega
      have hpk := Nat.pow_pos (n := k) (show 0 < 2 by decide)
      have h2 : 2 ^ (k + 1) ≤ 2 ^ t.sp.length := Nat.pow_le_pow_right (by decide) hk'
      have hsk := (spok_iff.1 (tok_sp h k hk')).1
      have en : nodeAt t k (lf (yes t.sp x) k) = ⟨t.sp[k].1, t.sp[k].2, ((2 ^ (k + 1) - 1 + lf (yes t.sp x) k : Nat) : Int), ((2 ^ (k + 1) - 1 + lf (yes t.sp x) k + 2 ^ k : Nat) : Int), 0⟩ := by
        unfold nodeAt; rw [if_neg e]; simp [List.getD_eq_getElem?_getD, List.getElem?_eq_getElem hk']
      rw [en] at hg'
      rw [Nat.pow_succ] at h2 hlen
      rw [wk_on hp (by rw [hg']; simp only; omega) (by rw [hg', leads_iff]; simp only; rw [Nat.pow_succ, hlen]; omega)]
      have := ih (k + 1) hk' (by omega)
      have en2 : nxt (grown t)[2 ^ k - 1 + lf (yes t.sp x) k] x = 2 ^ (k + 1) - 1 + lf (yes t.sp x) (k + 1) := by
        rw [hg']
        have hya := yes_at (sp := t.sp) (x := x) hk' (by omega)
        have hxa : x.getD t.sp[k].1.toNat 0 = x[t.sp[k].1.toNat]'(by omega) := by rw [List.getD_eq_getElem?_getD, List.getElem?_eq_getElem (by omega)]; rfl
        unfold nxt
        simp only
        rw [hxa]
        by_cases hy : t.sp[k].2 < x[t.sp[k].1.toNat]'(by omega)
        · rw [if_pos hy, lf_yes (by rw [hya]; simpa using hy)]; omega
        · rw [if_neg hy, lf_no (by rw [hya]; simpa using hy)]; omega
      rw [en2]; exact this
theorem walk_grown {t : T} {x : List Int} (h : tok t = true) (hx : x.length = 6) : walk (grown t) x = (eval t x, true) := by
  have hl := grown_length h
  have hlv : 0 < t.lv.length := by rw [(tok_iff.1 h).1.2]; exact Nat.pow_pos (by decide)
  rw [walk_yes (by omega) hx, eval_yes (askb_iff.2 ⟨h, hx⟩)]
  have := wk_grown (x := x) h hx (grown t).length 0 (Nat.zero_le _) (by
    have := grown_yes h ▸ rows_length (nodeAt t) (t.sp.length + 1)
    rw [this, Nat.pow_succ]
    have : t.sp.length < 2 ^ t.sp.length := Nat.lt_two_pow_self
    omega)
  simpa [lf] using this

/-- The bits i and i + 1 have changed places. -/
def mv (i n : Nat) : Nat := n - n / 2 ^ i % 2 * 2 ^ i - n / 2 ^ (i + 1) % 2 * 2 ^ (i + 1) + n / 2 ^ (i + 1) % 2 * 2 ^ i + n / 2 ^ i % 2 * 2 ^ (i + 1)
theorem mv_fin : ∀ d : Fin 5, ∀ i : Fin 3, i.val + 2 ≤ d.val → ∀ n : Fin 16, n.val < 2 ^ d.val → mv i.val n.val < 2 ^ d.val ∧ mv i.val (mv i.val n.val) = n.val := by decide +kernel
theorem mv_all (d : Nat) (hd : d ≤ 4) (i : Nat) (hi : i + 2 ≤ d) (n : Nat) (hn : n < 2 ^ d) : mv i n < 2 ^ d ∧ mv i (mv i n) = n := by
  have h16 : 2 ^ d ≤ 2 ^ 4 := Nat.pow_le_pow_right (by decide) hd
  exact mv_fin ⟨d, by omega⟩ ⟨i, by omega⟩ hi ⟨n, by omega⟩ hn
def swp (l : List (Int × Int)) (i : Nat) : List (Int × Int) := (l.set i (l.getD (i + 1) (0, 0))).set (i + 1) (l.getD i (0, 0))
theorem swp_length (l : List (Int × Int)) (i : Nat) : (swp l i).length = l.length := by simp [swp]
def flv (i : Nat) (lv : List Int) (p : Nat) : Int := lv.getD (mv i p) 0
def flipL (i : Nat) (lv : List Int) : List Int := (List.range lv.length).map (flv i lv)
theorem flipL_length (i : Nat) (lv : List Int) : (flipL i lv).length = lv.length := by simp [flipL]
def canFlip (t : T) (i : Int) : Bool := tok t && decide (0 ≤ i ∧ i ≤ (t.sp.length : Int) - 2)
def flipped (t : T) (i : Int) : T := if canFlip t i then ⟨swp t.sp i.toNat, flipL i.toNat t.lv⟩ else ⟨[], []⟩
theorem canFlip_iff {t : T} {i : Int} : canFlip t i = true ↔ tok t = true ∧ 0 ≤ i ∧ i ≤ (t.sp.length : Int) - 2 := by simp [canFlip]
theorem flipped_no {t : T} {i : Int} (h : canFlip t i = false) : flipped t i = ⟨[], []⟩ := by simp [flipped, h]
theorem flipped_yes {t : T} {i : Int} (h : canFlip t i = true) : flipped t i = ⟨swp t.sp i.toNat, flipL i.toNat t.lv⟩ := by simp [flipped, h]
theorem canFlip_tok {t : T} {i : Int} (h : tok t = false) : canFlip t i = false := by simp [canFlip, h]
theorem canFlip_i {t : T} {i : Int} (h : ¬ (0 ≤ i ∧ i ≤ (t.sp.length : Int) - 2)) : canFlip t i = false := by
  cases e : canFlip t i with
  | false => rfl
  | true => exact absurd (canFlip_iff.1 e).2 h
/-- As far as n the leaves have been put where they go. -/
def Put (i : Nat) (lv l : List Int) (d n : Nat) : Prop := l.length = lv.length ∧ ∀ p, p < 2 ^ d → mv i p < n → l[p]? = lv[mv i p]?
theorem put_zero (i : Nat) (lv l : List Int) (d : Nat) (h : l.length = lv.length) : Put i lv l d 0 := ⟨h, fun _ _ h => by omega⟩
theorem put_step {i d n : Nat} {lv l : List Int} (hd : d ≤ 4) (hi : i + 2 ≤ d) (hl : lv.length = 2 ^ d) (hn : n < lv.length) (h : Put i lv l d n) : Put i lv (l.set (mv i n) lv[n]) d (n + 1) := by
  refine ⟨by simpa using h.1, fun p hp hlt => ?_⟩
  have hm := mv_all d hd i hi
  by_cases e : mv i p = n
  · have hp' : mv i n = p := by rw [← e]; exact (hm p hp).2
    rw [hp', e, List.getElem?_set]
    rw [if_pos rfl, if_pos (by rw [h.1, hl]; exact hp), List.getElem?_eq_getElem hn]
  · rw [List.getElem?_set, if_neg (fun e' => e (by rw [← e']; exact (hm n (by omega)).2))]
    exact h.2 p hp (by omega)
theorem put_all {i d : Nat} {lv l : List Int} (hd : d ≤ 4) (hi : i + 2 ≤ d) (hl : lv.length = 2 ^ d) (h : Put i lv l d lv.length) : l = flipL i lv := by
  apply List.ext_getElem?
  intro p
  by_cases hp : p < lv.length
  · have hm := mv_all d hd i hi p (by omega)
    rw [h.2 p (by omega) (by omega)]
    simp [flipL, hp, flv, List.getElem?_eq_getElem (show mv i p < lv.length by omega), List.getD_eq_getElem?_getD]
  · rw [List.getElem?_eq_none (by rw [h.1]; omega), List.getElem?_eq_none (by rw [flipL_length]; omega)]
theorem flipL_at {i d : Nat} {lv : List Int} (hd : d ≤ 4) (hi : i + 2 ≤ d) (hl : lv.length = 2 ^ d) (p : Nat) (hp : p < 2 ^ d) : (flipL i lv)[p]? = lv[mv i p]? := by
  have hm := mv_all d hd i hi p hp
  simp [flipL, hl, hp, flv, List.getElem?_eq_getElem (show mv i p < lv.length by omega), List.getD_eq_getElem?_getD]
theorem flipL_twice {i d : Nat} {lv : List Int} (hd : d ≤ 4) (hi : i + 2 ≤ d) (hl : lv.length = 2 ^ d) : flipL i (flipL i lv) = lv := by
  apply List.ext_getElem?
  intro p
  by_cases hp : p < 2 ^ d
  · have hm := mv_all d hd i hi p hp
    rw [flipL_at hd hi (by rw [flipL_length]; exact hl) p hp, flipL_at hd hi hl _ hm.1, hm.2]
  · rw [List.getElem?_eq_none (by rw [flipL_length, flipL_length]; omega), List.getElem?_eq_none (by omega)]
theorem swp_get {l : List (Int × Int)} {i : Nat} (h : i + 2 ≤ l.length) (j : Nat) : (swp l i)[j]? = l[if j = i then i + 1 else if j = i + 1 then i else j]? := by
  unfold swp
  rw [List.getElem?_set, List.getElem?_set]
  simp only [List.length_set]
  by_cases e1 : j = i
  · subst e1
    rw [if_neg (by omega), if_pos rfl, if_pos (by omega), if_pos rfl]
    simp [List.getD_eq_getElem?_getD, List.getElem?_eq_getElem (show j + 1 < l.length by omega)]
  · by_cases e2 : j = i + 1
    · subst e2
      rw [if_pos rfl, if_pos (by omega), if_neg (by omega), if_pos rfl]
      simp [List.getD_eq_getElem?_getD, List.getElem?_eq_getElem (show i < l.length by omega)]
    · rw [if_neg (by omega), if_neg (by omega), if_neg e1, if_neg e2]
theorem swp_twice {l : List (Int × Int)} {i : Nat} (h : i + 2 ≤ l.length) : swp (swp l i) i = l := by
  apply List.ext_getElem?
  intro j
  rw [swp_get (by rw [swp_length]; exact h), swp_get h]
  congr 1
  (repeat' split) <;> omega
theorem swp_all {l : List (Int × Int)} {i : Nat} (h : i + 2 ≤ l.length) (p : Int × Int → Bool) (ha : l.all p = true) : (swp l i).all p = true := by
  rw [List.all_eq_true] at ha ⊢
  intro s hs
  obtain ⟨j, hj, rfl⟩ := List.getElem_of_mem hs
  have hg := swp_get h j
  rw [List.getElem?_eq_getElem hj] at hg
  obtain ⟨hq, hg'⟩ := List.getElem?_eq_some_iff.1 hg.symm
  rw [← hg']
  exact ha _ (List.getElem_mem hq)
theorem flipL_aok {i d : Nat} {lv : List Int} (hd : d ≤ 4) (hi : i + 2 ≤ d) (hl : lv.length = 2 ^ d) (ha : aok lv = true) : aok (flipL i lv) = true := by
  refine Bo.aok_to fun p hp => ?_
  have hp' : p < 2 ^ d := by rw [flipL_length] at hp; omega
  have hg := flipL_at hd hi hl p hp'
  rw [List.getElem?_eq_getElem hp] at hg
  obtain ⟨hq, hg'⟩ := List.getElem?_eq_some_iff.1 hg.symm
  rw [← hg']
  exact Bo.aok_at ha _ hq
theorem flip_tok {t : T} {i : Int} (h : canFlip t i = true) : tok (flipped t i) = true := by
  obtain ⟨ht, h0, h1⟩ := canFlip_iff.1 h
  obtain ⟨⟨h4, hl⟩, hs, ha⟩ := tok_iff.1 ht
  rw [flipped_yes h, tok_iff]
  simp only [swp_length, flipL_length]
  exact ⟨⟨h4, hl⟩, swp_all (by omega) _ hs, flipL_aok h4 (by omega) hl ha⟩
theorem flip_can {t : T} {i : Int} (h : canFlip t i = true) : canFlip (flipped t i) i = true := by
  obtain ⟨ht, h0, h1⟩ := canFlip_iff.1 h
  refine canFlip_iff.2 ⟨flip_tok h, h0, ?_⟩
  rw [flipped_yes h]; simp only [swp_length]; exact h1
theorem flip_back {t : T} {i : Int} (h : canFlip t i = true) : flipped (flipped t i) i = t := by
  obtain ⟨ht, h0, h1⟩ := canFlip_iff.1 h
  obtain ⟨⟨h4, hl⟩, hs, ha⟩ := tok_iff.1 ht
  rw [flipped_yes (flip_can h), flipped_yes h]
  exact T.ext' (swp_twice (by omega)) (flipL_twice h4 (by omega) hl)
theorem lf_swap (y y' : Nat → Bool) (d i : Nat) (hd : d ≤ 4) (hi : i + 2 ≤ d) (h : ∀ j, y' j = y (if j = i then i + 1 else if j = i + 1 then i else j)) : lf y' d = mv i (lf y d) := by
  match d, i, hd, hi with
  | 2, 0, _, _ => simp only [lf, h]; simp only [reduceIte, Nat.reduceEqDiff, Nat.reduceAdd]; cases y 0 <;> cases y 1 <;> rfl
  | 3, 0, _, _ => simp only [lf, h]; simp only [reduceIte, Nat.reduceEqDiff, Nat.reduceAdd]; cases y 0 <;> cases y 1 <;> cases y 2 <;> rfl
  | 3, 1, _, _ => simp only [lf, h]; simp only [reduceIte, Nat.reduceEqDiff, Nat.reduceAdd]; cases y 0 <;> cases y 1 <;> cases y 2 <;> rfl
  | 4, 0, _, _ => simp only [lf, h]; simp only [reduceIte, Nat.reduceEqDiff, Nat.reduceAdd]; cases y 0 <;> cases y 1 <;> cases y 2 <;> cases y 3 <;> rfl
  | 4, 1, _, _ => simp only [lf, h]; simp only [reduceIte, Nat.reduceEqDiff, Nat.reduceAdd]; cases y 0 <;> cases y 1 <;> cases y 2 <;> cases y 3 <;> rfl
  | 4, 2, _, _ => simp only [lf, h]; simp only [reduceIte, Nat.reduceEqDiff, Nat.reduceAdd]; cases y 0 <;> cases y 1 <;> cases y 2 <;> cases y 3 <;> rfl
/-- Two questions asked in the other order are the same tree. -/
theorem flip_eval {t : T} {i : Int} (h : canFlip t i = true) (x : List Int) : eval (flipped t i) x = eval t x := by
  obtain ⟨ht, h0, h1⟩ := canFlip_iff.1 h
  obtain ⟨⟨h4, hl⟩, hs, ha⟩ := tok_iff.1 ht
  by_cases hx : x.length = 6
  · rw [eval_yes (askb_iff.2 ⟨flip_tok h, hx⟩), eval_yes (askb_iff.2 ⟨ht, hx⟩), flipped_yes h]
    simp only [swp_length]
    have hsw := lf_swap (yes t.sp x) (yes (swp t.sp i.toNat) x) t.sp.length i.toNat h4 (by omega) (fun j => by
      unfold yes
      simp only [List.getD_eq_getElem?_getD, swp_get (show i.toNat + 2 ≤ t.sp.length by omega) j])
    rw [hsw]
    have hm := mv_all _ h4 i.toNat (by omega) _ (lf_lt (yes t.sp x) t.sp.length)
    rw [List.getD_eq_getElem?_getD, flipL_at h4 (by omega) hl _ hm.1, hm.2, List.getD_eq_getElem?_getD]
  · rw [eval_no (askb_len hx), eval_no (askb_len hx)]
end Go.Proofs.YtdileifjmlabfaaGreatDoor.Tr
