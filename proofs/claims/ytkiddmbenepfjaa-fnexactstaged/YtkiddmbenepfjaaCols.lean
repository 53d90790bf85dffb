/-
  The columns of a table: contracts of Labels, Column, Words, of the program and of its model, over plain functions of lists; a table marked.
-/
import Derived.Test.YtkiddmbenepfjaaTabX
namespace Go.Proofs.Ytkiddmbenepfjaa.Co
set_option maxRecDepth 20000
open Go.RowKit
open Go.Proofs.Ytkiddmbenepfjaa.Tb
open Go.Proofs.Ytkiddmbenepfjaa.Tk
open Go.Proofs.Ytkiddmbenepfjaa.Li (ret_bool grown_refl grown_trans grown_set below_none info_int btw between_any)

theorem one_cell (w : World) (T : TypeId) (x : Int) : ∀ j u, ([Value.int .i64 x] : List Value)[j]? = some u → (w.alloc (.cells #[.int .i64 x] T)).cell? ((⟨w.heap.size, 0, none⟩ : Addr).add j) = some u := by
  intro j u hj
  match j, hj with
  | 0, hj => simp at hj; subst hj; simp [Addr.add]
theorem one_one (x : Int) : ∀ u ∈ ([Value.int .i64 x] : List Value), u.oneCell' = true := by
  intro u hu; simp at hu; subst hu; rfl
theorem own_snoc {w : World} {base n : Nat} {v : Value} {l : List Int} {x : Int} (hn : l.length = n) (h : w.ownsRow base 3 1 v (n + 1) (Li.iv l ++ [.int .i64 x])) : Li.Own w base v (l ++ [x]) := by
  subst hn
  unfold Li.Own
  rw [← Li.iv_append, List.length_append]
  exact h
theorem own_empty (w : World) (base : Nat) (hb : base ≤ w.heap.size) : Li.Own (w.alloc (.cells #[] 3)) base (.slice (some ⟨w.heap.size, 0, none⟩) 0 0) [] :=
  World.ownsRow_made w #[] 0 hb (by unfold maxLen; omega) (by simp)
def labs (rs : List Row) : List Int := rs.map Row.label
def labels (n c : Int) (rs : List Row) : List Int := if tok n c rs = true then labs rs else []
theorem labs_length (rs : List Row) : (labs rs).length = rs.length := by simp [labs]
theorem labels_le (n c : Int) (rs : List Row) : (labels n c rs).length ≤ rs.length := by
  unfold labels; split
  · rw [labs_length]; exact Nat.le_refl _
  · simp
theorem labs_get (rs : List Row) (j : Nat) (h : j < rs.length) : (labs rs)[j]'(by rw [labs_length]; exact h) = rs[j].label := by simp [labs]
theorem take_get {α : Type} (xs : List α) (k : Nat) (h : k < xs.length) : xs.take (k + 1) = xs.take k ++ [xs[k]] := List.take_succ_eq_append_getElem h
/-- The numbers at a place of the rows. -/
def nat (rs : List Row) (p : Nat) : List Int := rs.map fun r => r.nums.getD p 0
def column (n c : Int) (rs : List Row) (num : Int) : List Int := if tok n c rs = true ∧ 0 ≤ num ∧ num < n then nat rs num.toNat else []
theorem nat_length (rs : List Row) (p : Nat) : (nat rs p).length = rs.length := by simp [nat]
theorem column_le (n c : Int) (rs : List Row) (num : Int) : (column n c rs num).length ≤ rs.length := by
  unfold column; split
  · rw [nat_length]; exact Nat.le_refl _
  · simp
theorem nat_get (rs : List Row) (p j : Nat) (h : j < rs.length) (hp : p < rs[j].nums.length) : (nat rs p)[j]'(by rw [nat_length]; exact h) = rs[j].nums[p] := by simp [nat, hp]
theorem tok_nums {n c : Int} {rs : List Row} (h : tok n c rs = true) (j : Nat) (hj : j < rs.length) : (rs[j].nums.length : Int) = n ∧ (rs[j].cats.length : Int) = c := by
  have h2 := (tok_iff.1 h).2.2
  have := rok_iff.1 (List.all_eq_true.1 h2 _ (List.getElem_mem hj))
  exact ⟨this.2.1, this.2.2.1⟩
end Go.Proofs.Ytkiddmbenepfjaa.Co
