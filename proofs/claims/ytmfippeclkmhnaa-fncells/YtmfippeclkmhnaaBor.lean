/-
  Borders and bins, as plain functions on lists of numbers; what follows of them.
-/
import Derived.Test.YtmfippeclkmhnaaLists
namespace Go.Proofs.Ytmfippeclkmhnaa.Bo
open Go.RowKit

def fok (x : Int) : Bool := decide (-1000000000 ≤ x ∧ x ≤ 1000000000)
theorem fok_iff {x : Int} : fok x = true ↔ (-1000000000 ≤ x ∧ x ≤ 1000000000) := by simp [fok]
def aok (l : List Int) : Bool := l.all fok
theorem aok_iff {l : List Int} : aok l = true ↔ ∀ x ∈ l, fok x = true := by simp [aok]
theorem aok_to {l : List Int} (h : ∀ j (hj : j < l.length), fok l[j] = true) : aok l = true := by
  rw [aok_iff]; intro x hx
  obtain ⟨j, hj, rfl⟩ := List.getElem_of_mem hx
  exact h j hj
theorem aok_at {l : List Int} (h : aok l = true) (j : Nat) (hj : j < l.length) : fok l[j] = true := aok_iff.1 h _ (List.getElem_mem hj)
theorem aok_no {l : List Int} {j : Nat} (hj : j < l.length) (h : fok l[j] = false) : aok l = false := by
  cases e : aok l with
  | false => rfl
  | true => rw [aok_at e j hj] at h; cases h

/-- How many of b are less than x. -/
def bin (b : List Int) (x : Int) : Nat := (b.filter (fun y => decide (y < x))).length
theorem bin_take (b : List Int) (x : Int) (k : Nat) (h : k < b.length) : bin (b.take (k + 1)) x = bin (b.take k) x + (if b[k] < x then 1 else 0) := by
  unfold bin
  rw [List.take_succ_eq_append_getElem h, List.filter_append, List.length_append]
  congr 1
  by_cases hx : b[k] < x <;> simp [hx]
theorem bin_yes {b : List Int} {x : Int} {k : Nat} (h : k < b.length) (hx : b[k] < x) : bin (b.take (k + 1)) x = bin (b.take k) x + 1 := by rw [bin_take b x k h, if_pos hx]
theorem bin_no {b : List Int} {x : Int} {k : Nat} (h : k < b.length) (hx : ¬ b[k] < x) : bin (b.take (k + 1)) x = bin (b.take k) x := by rw [bin_take b x k h, if_neg hx]; rfl
theorem bin_le (b : List Int) (x : Int) : bin b x ≤ b.length := List.length_filter_le _ _
theorem bin_mono (b : List Int) {x y : Int} (h : x ≤ y) : bin b x ≤ bin b y := by
  unfold bin
  induction b with
  | nil => simp
  | cons a r ih =>
    simp only [List.filter_cons]
    by_cases h1 : a < x
    · have h2 : a < y := by omega
      simp [h1, h2]; omega
    · by_cases h2 : a < y <;> simp [h1, h2] <;> omega
def Srt (b : List Int) : Prop := b.Pairwise (fun x y => x < y)
theorem bin_none {b : List Int} {x : Int} (h : ∀ y ∈ b, ¬ y < x) : bin b x = 0 := by
  unfold bin
  rw [List.length_eq_zero_iff, List.filter_eq_nil_iff]
  intro y hy; simpa using h y hy
theorem bin_at {b : List Int} (hs : Srt b) (x : Int) : ∀ (n : Nat) (h : n < b.length), b[n] < x ↔ n < bin b x := by
  induction b with
  | nil => intro n h; simp at h
  | cons a r ih =>
    intro n h
    unfold Srt at hs
    rw [List.pairwise_cons] at hs
    by_cases ha : a < x
    · have e : bin (a :: r) x = bin r x + 1 := by unfold bin; simp [ha]
      rw [e]
      cases n with
      | zero => simp [ha]
      | succ n =>
        have := ih hs.2 n (by simpa using h)
        rw [List.getElem_cons_succ, this]; omega
    · have e : bin (a :: r) x = bin r x := by unfold bin; simp [ha]
      have e0 : bin r x = 0 := bin_none (fun y hy => by have := hs.1 y hy; omega)
      rw [e, e0]
      cases n with
      | zero => simp [ha]
      | succ n =>
        have hn : n < r.length := by simpa using h
        have := hs.1 r[n] (List.getElem_mem hn)
        rw [List.getElem_cons_succ]; omega
def bins (b l : List Int) : List Int := l.map fun x => (bin b x : Int)
theorem bins_length (b l : List Int) : (bins b l).length = l.length := by simp [bins]
theorem bins_get (b l : List Int) (j : Nat) (h : j < (bins b l).length) : (bins b l)[j] = (bin b (l[j]'(by rwa [bins_length] at h)) : Int) := by simp [bins]

/-- Each is less than the next, as far as the place k. -/
def Adj (b : List Int) (k : Nat) : Prop := ∀ j (h : j + 1 < b.length), j + 1 < k → b[j] < b[j + 1]
theorem adj_srt {b : List Int} (h : Adj b b.length) : Srt b := by
  unfold Srt
  rw [List.pairwise_iff_getElem]
  intro i j hi hj hij
  induction j with
  | zero => omega
  | succ j ih =>
    have h1 := h j hj hj
    by_cases e : i = j
    · subst e; exact h1
    · have := ih (by omega) (by omega); omega
theorem srt_adj {b : List Int} (h : Srt b) (k : Nat) : Adj b k := by
  intro j hj _
  exact (List.pairwise_iff_getElem.1 h) j (j + 1) (by omega) hj (by omega)
theorem adj_zero (b : List Int) : Adj b 0 := fun j _ h => by omega
theorem adj_one (b : List Int) : Adj b 1 := fun j _ h => by omega
theorem adj_succ {b : List Int} {k : Nat} (h : Adj b k) (hk : k < b.length) (hs : 0 < k → b[k - 1] < b[k]) : Adj b (k + 1) := by
  intro j hj hjk
  by_cases e : j + 1 = k
  · subst e; simpa using hs (by omega)
  · exact h j hj (by omega)
noncomputable def bok (b : List Int) : Bool := @decide (b.length ≤ 12 ∧ aok b = true ∧ Srt b) (Classical.propDecidable _)
theorem bok_iff {b : List Int} : bok b = true ↔ (b.length ≤ 12 ∧ aok b = true ∧ Srt b) := by unfold bok; simp
theorem bok_false {b : List Int} (h : ¬ (b.length ≤ 12 ∧ aok b = true ∧ Srt b)) : bok b = false := by
  cases e : bok b with
  | false => rfl
  | true => exact absurd (bok_iff.1 e) h
theorem bok_long {b : List Int} (h : 12 < b.length) : bok b = false := bok_false (fun hh => by omega)
theorem bok_bad {b : List Int} {j : Nat} (hj : j < b.length) (h : fok b[j] = false) : bok b = false := bok_false (fun hh => by rw [aok_at hh.2.1 j hj] at h; cases h)
theorem bok_nok {b : List Int} (h : aok b = false) : bok b = false := bok_false (fun hh => by rw [hh.2.1] at h; cases h)
theorem bok_fall {b : List Int} {j : Nat} (hj : j + 1 < b.length) (h : ¬ b[j] < b[j + 1]) : bok b = false := bok_false (fun hh => h (srt_adj hh.2.2 (j + 2) j hj (by omega)))
theorem bok_all {b : List Int} (h0 : b.length ≤ 12) (h1 : aok b = true) (h2 : Adj b b.length) : bok b = true := bok_iff.2 ⟨h0, h1, adj_srt h2⟩

/-- A number put into a rising list, where it is not there. -/
def ins : List Int → Int → List Int
  | [], x => [x]
  | y :: r, x => if y < x then y :: ins r x else if y = x then y :: r else x :: y :: r
theorem ins_mem (l : List Int) (x y : Int) : y ∈ ins l x ↔ y ∈ l ∨ y = x := by
  induction l with
  | nil => simp [ins]
  | cons a r ih =>
    unfold ins
    split
    · simp [ih, or_assoc]
    · split
      · rename_i e; subst e; simp; intro h; exact .inl h
      · simp only [List.mem_cons]
        constructor
        · rintro (h | h | h)
          · exact .inr h
          · exact .inl (.inl h)
          · exact .inl (.inr h)
        · rintro ((h | h) | h)
          · exact .inr (.inl h)
          · exact .inr (.inr h)
          · exact .inl h
theorem ins_srt {l : List Int} {x : Int} (h : Srt l) : Srt (ins l x) := by
  induction l with
  | nil => simp [ins, Srt]
  | cons a r ih =>
    unfold Srt at h ih ⊢
    rw [List.pairwise_cons] at h
    unfold ins
    split
    · rename_i hlt
      rw [List.pairwise_cons]
      refine ⟨fun y hy => ?_, ih h.2⟩
      rcases (ins_mem r x y).1 hy with hy | rfl
      · exact h.1 y hy
      · exact hlt
    · split
      · rw [List.pairwise_cons]; exact h
      · rw [List.pairwise_cons, List.pairwise_cons]
        refine ⟨fun y hy => ?_, h⟩
        simp only [List.mem_cons] at hy
        rcases hy with rfl | hy
        · omega
        · have := h.1 y hy; omega
/-- Where it is put: the place ahead of which all are less. -/
theorem ins_at {l : List Int} {x : Int} : ∀ (p : Nat), p ≤ l.length → (∀ j (h : j < l.length), j < p → l[j] < x) → (∀ h : p < l.length, ¬ l[p] < x) →
    ins l x = if (∃ h : p < l.length, l[p] = x) then l else l.take p ++ [x] ++ l.drop p := by
  induction l with
  | nil => intro p hp _ _; simp [ins]
  | cons a r ih =>
    intro p hp h1 h2
    cases p with
    | zero =>
      have h0 := h2 (by simp)
      simp only [List.getElem_cons_zero] at h0
      unfold ins
      rw [if_neg h0]
      by_cases e : a = x
      · rw [if_pos e, if_pos ⟨by simp, by simpa using e⟩]
      · rw [if_neg e, if_neg (by rintro ⟨_, e'⟩; exact e (by simpa using e'))]; simp
    | succ p =>
      have h0 := h1 0 (by simp) (by omega)
      simp only [List.getElem_cons_zero] at h0
      unfold ins
      rw [if_pos h0, ih p (by simpa using hp) (fun j h hj => by have := h1 (j + 1) (by simpa using h) (by omega); simpa using this) (fun h => by have := h2 (by simpa using h); simpa using this)]
      by_cases e : ∃ h : p < r.length, r[p] = x
      · rw [if_pos e, if_pos (by obtain ⟨h, e⟩ := e; exact ⟨by simpa using h, by simpa using e⟩)]
      · rw [if_neg e, if_neg (by rintro ⟨h, e'⟩; exact e ⟨by simpa using h, by simpa using e'⟩)]; simp
def srt (l : List Int) : List Int := l.foldl ins []
theorem srt_take {l : List Int} {k : Nat} (h : k < l.length) : srt (l.take (k + 1)) = ins (srt (l.take k)) l[k] := by
  unfold srt
  rw [List.take_succ_eq_append_getElem h, List.foldl_append]; rfl
theorem foldl_mem (l : List Int) : ∀ (m : List Int) (y : Int), y ∈ l.foldl ins m ↔ y ∈ m ∨ y ∈ l := by
  induction l with
  | nil => simp
  | cons a r ih => intro m y; rw [List.foldl_cons, ih, ins_mem]; simp only [List.mem_cons, or_assoc]
theorem foldl_srt (l : List Int) : ∀ (m : List Int), Srt m → Srt (l.foldl ins m) := by
  induction l with
  | nil => intro m h; exact h
  | cons a r ih => intro m h; exact ih _ (ins_srt h)
theorem srt_mem {l : List Int} {y : Int} : y ∈ srt l ↔ y ∈ l := by unfold srt; rw [foldl_mem]; simp
theorem srt_srt (l : List Int) : Srt (srt l) := foldl_srt l [] (by simp [Srt])
theorem ins_len (l : List Int) (x : Int) : (ins l x).length ≤ l.length + 1 := by
  induction l with
  | nil => simp [ins]
  | cons a r ih => unfold ins; split <;> (try split) <;> simp <;> omega
theorem foldl_len (l : List Int) : ∀ (m : List Int), (l.foldl ins m).length ≤ m.length + l.length := by
  induction l with
  | nil => simp
  | cons a r ih => intro m; rw [List.foldl_cons]; have := ih (ins m a); have := ins_len m a; simp only [List.length_cons]; omega
theorem srt_len (l : List Int) : (srt l).length ≤ l.length := by have := foldl_len l []; simpa [srt] using this
theorem srt_ext : ∀ {l m : List Int}, Srt l → Srt m → (∀ x, x ∈ l ↔ x ∈ m) → l = m
  | [], [], _, _, _ => rfl
  | [], b :: m, _, _, h => by have := (h b).2 (by simp); cases this
  | a :: l, [], _, _, h => by have := (h a).1 (by simp); cases this
  | a :: l, b :: m, hl, hm, h => by
    unfold Srt at hl hm
    rw [List.pairwise_cons] at hl hm
    have e : a = b := by
      rcases List.mem_cons.1 ((h a).1 (by simp)) with e | h1
      · exact e
      · rcases List.mem_cons.1 ((h b).2 (by simp)) with e | h2
        · exact e.symm
        · have := hm.1 a h1; have := hl.1 b h2; omega
    subst e
    congr 1
    refine srt_ext hl.2 hm.2 (fun x => ⟨fun hx => ?_, fun hx => ?_⟩)
    · rcases List.mem_cons.1 ((h x).1 (List.mem_cons_of_mem _ hx)) with e | h1
      · have := hl.1 x hx; omega
      · exact h1
    · rcases List.mem_cons.1 ((h x).2 (List.mem_cons_of_mem _ hx)) with e | h1
      · have := hm.1 x hx; omega
      · exact h1
theorem srt_uniq {l m : List Int} (hm : Srt m) (h : ∀ x, x ∈ m ↔ x ∈ l) : m = srt l := srt_ext hm (srt_srt l) (fun x => by rw [h x, srt_mem])

/-- The place of the j-th of the borders (from 0 on) among v of m. -/
def plc (m most j : Nat) : Nat := (j + 1) * m / (most + 1) - 1
theorem plc_pos {m most j : Nat} (h : most + 1 < m) : 0 < (j + 1) * m / (most + 1) := by
  apply Nat.div_pos _ (by omega)
  have : 1 * m ≤ (j + 1) * m := Nat.mul_le_mul_right _ (by omega)
  omega
theorem plc_le {m most j : Nat} (hj : j < most) : (j + 1) * m / (most + 1) ≤ m := by
  apply Nat.div_le_of_le_mul
  rw [Nat.mul_comm (most + 1) m, Nat.mul_comm (j + 1) m]
  exact Nat.mul_le_mul_left _ (by omega)
theorem plc_lt {m most j : Nat} (h : most + 1 < m) (hj : j < most) : (j + 1) * m / (most + 1) < m := by
  apply (Nat.div_lt_iff_lt_mul (by omega)).2
  rw [Nat.mul_comm m (most + 1)]
  exact Nat.mul_lt_mul_of_pos_right (by omega) (by omega)
theorem plc_step {m most i : Nat} (h : most + 1 < m) : (i + 1) * m / (most + 1) < (i + 1 + 1) * m / (most + 1) := by
  have e : (i + 1 + 1) * m = (i + 1) * m + m := by rw [Nat.succ_mul (i + 1)]
  have h1 : ((i + 1) * m + (most + 1)) / (most + 1) ≤ ((i + 1) * m + m) / (most + 1) := Nat.div_le_div_right (by omega)
  rw [Nat.add_div_right _ (by omega)] at h1
  rw [e]; omega
theorem plc_mono {m most : Nat} (h : most + 1 < m) : ∀ (j i : Nat), i < j → (i + 1) * m / (most + 1) < (j + 1) * m / (most + 1)
  | 0, i, hij => by omega
  | j + 1, i, hij => by
    have h1 := plc_step (i := j) h
    by_cases e : i = j
    · subst e; exact h1
    · have := plc_mono h j i (by omega); omega
def cut (v : List Int) (most : Nat) : List Int := if v.length ≤ most + 1 then v.take (v.length - 1) else (List.range most).map fun j => v.getD (plc v.length most j) 0
def bor (l : List Int) (most : Int) : List Int := if l.length ≤ 1000 ∧ 0 ≤ most ∧ most ≤ 12 ∧ aok l = true then cut (srt l) most.toNat else []
theorem cut_few {v : List Int} {most : Nat} (h : v.length ≤ most + 1) : cut v most = v.take (v.length - 1) := if_pos h
theorem cut_many {v : List Int} {most : Nat} (h : ¬ v.length ≤ most + 1) : cut v most = (List.range most).map fun j => v.getD (plc v.length most j) 0 := if_neg h
theorem cut_len (v : List Int) (most : Nat) : (cut v most).length ≤ most := by
  unfold cut; split
  · simp; omega
  · simp
theorem bor_yes {l : List Int} {most : Int} (h : l.length ≤ 1000 ∧ 0 ≤ most ∧ most ≤ 12 ∧ aok l = true) : bor l most = cut (srt l) most.toNat := if_pos h
theorem bor_no {l : List Int} {most : Int} (h : ¬ (l.length ≤ 1000 ∧ 0 ≤ most ∧ most ≤ 12 ∧ aok l = true)) : bor l most = [] := if_neg h
theorem bor_len12 (l : List Int) (most : Int) : (bor l most).length ≤ 12 := by
  by_cases h : l.length ≤ 1000 ∧ 0 ≤ most ∧ most ≤ 12 ∧ aok l = true
  · rw [bor_yes h]; have := cut_len (srt l) most.toNat; omega
  · rw [bor_no h]; simp
/-- Each of the borders is one of v that is not the last. -/
theorem cut_get {v : List Int} {most k : Nat} (h : k < (cut v most).length) : ∃ (p : Nat) (hp : p + 1 < v.length), (cut v most)[k] = v[p] := by
  by_cases hf : v.length ≤ most + 1
  · have e := cut_few hf
    have hk : k < (v.take (v.length - 1)).length := by rw [← e]; exact h
    simp only [List.length_take] at hk
    refine ⟨k, by omega, ?_⟩
    simp [e]
  · have e := cut_many hf
    have hk : k < most := by rw [e] at h; simpa using h
    have h1 := plc_pos (j := k) (show most + 1 < v.length by omega)
    have h2 := plc_lt (show most + 1 < v.length by omega) hk
    refine ⟨plc v.length most k, by unfold plc; omega, ?_⟩
    simp only [e, List.getElem_map, List.getElem_range]
    rw [List.getD_eq_getElem?_getD, List.getElem?_eq_getElem (by unfold plc; omega)]; rfl
theorem cut_srt {v : List Int} {most : Nat} (hv : Srt v) : Srt (cut v most) := by
  by_cases hf : v.length ≤ most + 1
  · rw [cut_few hf]; exact List.Pairwise.take hv
  · unfold Srt
    rw [List.pairwise_iff_getElem]
    intro i j hi hj hij
    have hm : most + 1 < v.length := by omega
    have e := cut_many hf
    have hi' : i < most := by rw [e] at hi; simpa using hi
    have hj' : j < most := by rw [e] at hj; simpa using hj
    have hpi := plc_pos (j := i) hm
    have hpj := plc_lt hm hj'
    have hlt := plc_mono hm j i hij
    have hki : plc v.length most i < v.length := by unfold plc; omega
    have hkj : plc v.length most j < v.length := by unfold plc; omega
    simp only [e, List.getElem_map, List.getElem_range]
    rw [List.getD_eq_getElem?_getD, List.getElem?_eq_getElem hki, List.getD_eq_getElem?_getD, List.getElem?_eq_getElem hkj]
    simp only [Option.getD_some]
    exact (List.pairwise_iff_getElem.1 hv) _ _ hki hkj (by unfold plc; omega)
theorem bor_bok (l : List Int) (most : Int) : bok (bor l most) = true := by
  rw [bok_iff]
  refine ⟨bor_len12 l most, ?_, ?_⟩
  · by_cases h : l.length ≤ 1000 ∧ 0 ≤ most ∧ most ≤ 12 ∧ aok l = true
    · rw [bor_yes h]
      refine aok_to (fun j hj => ?_)
      obtain ⟨p, hp, e⟩ := cut_get hj
      rw [e]
      exact aok_iff.1 h.2.2.2 _ (srt_mem.1 (List.getElem_mem (by omega)))
    · rw [bor_no h]; rfl
  · by_cases h : l.length ≤ 1000 ∧ 0 ≤ most ∧ most ≤ 12 ∧ aok l = true
    · rw [bor_yes h]; exact cut_srt (srt_srt l)
    · rw [bor_no h]; simp [Srt]
theorem bor_yes_of {l : List Int} {most : Int} (h : ¬ (bor l most).length = 0) : l.length ≤ 1000 ∧ 0 ≤ most ∧ most ≤ 12 ∧ aok l = true := by
  apply Classical.byContradiction
  intro hh
  exact h (by rw [bor_no hh]; rfl)
theorem bor_mem {l : List Int} {most : Int} {k : Nat} (h : k < (bor l most).length) : (bor l most)[k] ∈ l := by
  have hh := bor_yes_of (l := l) (most := most) (by omega)
  have e := bor_yes hh
  obtain ⟨p, hp, e'⟩ := cut_get (v := srt l) (most := most.toNat) (k := k) (by rw [← e]; exact h)
  simp only [e, e']
  exact srt_mem.1 (List.getElem_mem (by omega))
/-- None of the borders is the greatest. -/
theorem bor_top {l : List Int} {most : Int} {k : Nat} (h : k < (bor l most).length) {t : Int} (ht : ∀ x ∈ l, x ≤ t) : (bor l most)[k] < t := by
  have hh := bor_yes_of (l := l) (most := most) (by omega)
  have e := bor_yes hh
  obtain ⟨p, hp, e'⟩ := cut_get (v := srt l) (most := most.toNat) (k := k) (by rw [← e]; exact h)
  simp only [e, e']
  have h1 := (List.pairwise_iff_getElem.1 (srt_srt l)) p (p + 1) (by omega) hp (by omega)
  have h2 := ht _ (srt_mem.1 (List.getElem_mem hp))
  omega
theorem bor_most {l : List Int} {most : Int} (h : ¬ (bor l most).length = 0) : ((bor l most).length : Int) ≤ most := by
  have hh := bor_yes_of h
  rw [bor_yes hh]
  have := cut_len (srt l) most.toNat
  omega
theorem srt_map (l : List Int) (d : Int) : srt (l.map (· + d)) = (srt l).map (· + d) := by
  symm
  refine srt_uniq ?_ (fun x => ?_)
  · unfold Srt
    rw [List.pairwise_map]
    exact (srt_srt l).imp (fun h => by omega)
  · simp only [List.mem_map, srt_mem]
theorem cut_map (v : List Int) (most : Nat) (d : Int) : cut (v.map (· + d)) most = (cut v most).map (· + d) := by
  by_cases hf : v.length ≤ most + 1
  · rw [cut_few (by simpa using hf), cut_few hf, List.map_take]; simp
  · rw [cut_many (by simpa using hf), cut_many hf, List.map_map]
    apply List.map_congr_left
    intro j hj
    have hj' : j < most := by simpa using hj
    have hm : most + 1 < v.length := by omega
    have hpj := plc_lt hm hj'
    have hkj : plc v.length most j < v.length := by unfold plc; omega
    simp [List.getD_eq_getElem?_getD, List.getElem?_eq_getElem hkj]
theorem bor_map {l : List Int} {most : Int} (d : Int) (h : l.length ≤ 1000 ∧ 0 ≤ most ∧ most ≤ 12 ∧ aok l = true) (h' : aok (l.map (· + d)) = true) : bor (l.map (· + d)) most = (bor l most).map (· + d) := by
  rw [bor_yes (l := l.map _) ⟨by simpa using h.1, h.2.1, h.2.2.1, h'⟩, bor_yes h, srt_map, cut_map]
end Go.Proofs.Ytmfippeclkmhnaa.Bo
