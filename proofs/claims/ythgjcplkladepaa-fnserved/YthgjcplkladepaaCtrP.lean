/-
  What follows of the numbers of words: a row behind all others is told what all rows say of its word; labels that come no earlier do not matter.
-/
import Derived.Test.YthgjcplkladepaaCtrO
namespace Go.Proofs.Ythgjcplkladepaa.Ct
open Go.Proofs.Ythgjcplkladepaa.Wd
open Go.Proofs.Ythgjcplkladepaa.Tk (lok)
open Go.Proofs.Ythgjcplkladepaa.Pe (pok POk pok_iff pok_of)

theorem tal_congr {ws ws' : List ByteArray} {ls ls' : List Int} (s : ByteArray) : ∀ js : List Int, (∀ j ∈ js, wat ws j = wat ws' j ∧ lat ls j = lat ls' j) → tal ws ls js s = tal ws' ls' js s
  | [], _ => rfl
  | j :: r, h => by
    have ih := tal_congr (ws := ws) (ws' := ws') (ls := ls) (ls' := ls') s r (fun i hi => h i (by simp [hi]))
    have hj := h j (by simp)
    unfold tal at ih ⊢
    simp only [Prod.mk.injEq] at ih
    simp only [tr, tl, hj.1, hj.2, ih.1, ih.2]
theorem idx_mem {n : Nat} {j : Int} (h : j ∈ idx n) : 0 ≤ j ∧ j < (n : Int) := by
  simp only [idx, List.mem_map, List.mem_range] at h
  obtain ⟨i, hi, rfl⟩ := h
  omega
theorem idx_pok (n : Nat) (h : n ≤ 60) : POk (idx n) := by
  refine pok_of (by rw [idx_len]; exact h) ?_ ?_
  · intro j hj
    rw [idx_get, idx_len]
    rw [idx_len] at hj
    omega
  · intro i j hi hj e
    rw [idx_get, idx_get] at e
    omega
theorem idx_take (n : Nat) : (idx (n + 1)).take n = idx n := by
  rw [idx_succ, List.take_append_of_le_length (by rw [idx_len]; exact Nat.le_refl _), List.take_of_length_le (by rw [idx_len]; exact Nat.le_refl _)]
theorem wat_app {ws : List ByteArray} {s : ByteArray} {j : Int} (h0 : 0 ≤ j) (h : j < (ws.length : Int)) : wat (ws ++ [s]) j = wat ws j := by
  unfold wat
  simp only [List.getD_eq_getElem?_getD]
  rw [List.getElem?_append_left (by omega)]
theorem lat_app {ls : List Int} {l : Int} {j : Int} (h0 : 0 ≤ j) (h : j < (ls.length : Int)) : lat (ls ++ [l]) j = lat ls j := by
  unfold lat
  simp only [List.getD_eq_getElem?_getD]
  rw [List.getElem?_append_left (by omega)]
theorem served_ok {ws : List ByteArray} {ls : List Int} {s : ByteArray} {p : Int} (h : rgt ws.length ls p = true) (hn : ws.length < 40) : cOk (ws ++ [s]) (ls ++ [0]) (idx (ws.length + 1)) (ws.length : Int) p = true := by
  obtain ⟨⟨_, hl, p0, p1⟩, ha⟩ := rgt_iff.1 h
  refine cOk_iff.2 ⟨ord_iff.2 ⟨rgt_iff.2 ⟨⟨by simp; omega, by simp; omega, p0, p1⟩, ?_⟩, ?_, idx_pok _ (by omega)⟩, by omega, ?_⟩
  · rw [List.all_append, ha]; rfl
  · rw [idx_len]; simp
  · rw [idx_len]; omega
theorem served_num {ws : List ByteArray} {ls : List Int} {s : ByteArray} {p : Int} (h : rgt ws.length ls p = true) (hn : ws.length < 40) : cNum (ws ++ [s]) (ls ++ [0]) (idx (ws.length + 1)) (ws.length : Int) p = oNum ws ls s p := by
  obtain ⟨⟨_, hl, _, _⟩, _⟩ := rgt_iff.1 h
  rw [cNum_yes (served_ok h hn), oNum_yes h]
  unfold atNum ofNum
  have e1 : lat (idx (ws.length + 1)) ((ws.length : Int).toNat : Int) = (ws.length : Int) := by
    rw [lat_get (by rw [idx_len]; omega), idx_get]; omega
  have e2 : wat (ws ++ [s]) (ws.length : Int) = s := by
    rw [wat_get (by simp)]; simp
  rw [e1, e2, show ((ws.length : Int)).toNat = ws.length by omega, idx_take]
  congr 1
  exact tal_congr s _ (fun j hj => by have := idx_mem hj; exact ⟨wat_app this.1 this.2, lat_app this.1 (by omega)⟩)
/-- Labels that are alike at the places of the rows ahead. -/
theorem ahead_same {ws : List ByteArray} {ls o ps : List Int} {k : Nat} {p : Int} (h : ∀ q (hq : q < ps.length), q < k → lat o ps[q] = lat ls ps[q]) (i : Nat) (hi : i ≤ k) : atNum ws o ps i p = atNum ws ls ps i p := by
  unfold atNum
  congr 1
  refine tal_congr _ _ (fun j hj => ⟨rfl, ?_⟩)
  obtain ⟨q, hq, rfl⟩ := List.getElem_of_mem hj
  have hq' : q < i ∧ q < ps.length := by simp at hq; omega
  simp only [List.getElem_take]
  exact h q hq'.2 (by omega)
theorem lat_set {o : List Int} {x : Int} {v : Int} {j : Int} (hx : 0 ≤ x) (hj : 0 ≤ j) (hne : ¬ x = j) : lat (o.set x.toNat v) j = lat o j := by
  unfold lat
  simp only [List.getD_eq_getElem?_getD]
  rw [List.getElem?_set_ne (by omega)]
theorem all_set {o : List Int} {k : Nat} {v : Int} (h : o.all lok = true) (hv : lok v = true) : (o.set k v).all lok = true := by
  rw [List.all_eq_true] at h ⊢
  intro x hx
  rcases List.mem_or_eq_of_mem_set hx with h' | h'
  · exact h x h'
  · rw [h']; exact hv
end Go.Proofs.Ythgjcplkladepaa.Ct
