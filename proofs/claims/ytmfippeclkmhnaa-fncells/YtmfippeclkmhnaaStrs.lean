/-
  Lists of texts: what a slice reads as, what a call owns; contracts of the laws' own helpers (a copy, a comparison, marks and whether they are held).
-/
import Derived.Test.YtmfippeclkmhnaaLists
import Derived.WalkKit
import Derived.Deep.QuietTactic
import Derived.BigQuiet
import Derived.Below
import Derived.OpenShut
import Derived.WalkSmall
import Derived.Lib.Strings
namespace Go.Proofs.Ytmfippeclkmhnaa.Ls
open Go.RowKit
open Go.Proofs.Ytmfippeclkmhnaa.Li (below_none ret_bool ret_int grown_refl grown_trans grown_set)

def sv (xs : List ByteArray) : List Value := xs.map Value.string
theorem sv_length (xs : List ByteArray) : (sv xs).length = xs.length := by simp [sv]
theorem sv_get (xs : List ByteArray) (j : Nat) (h : j < xs.length) : (sv xs)[j]? = some (.string xs[j]) := by simp [sv, List.getElem?_eq_getElem h]
theorem sv_set (xs : List ByteArray) (j : Nat) (x : ByteArray) : (sv xs).set j (.string x) = sv (xs.set j x) := by simp [sv, List.map_set]
theorem sv_append (xs ys : List ByteArray) : sv xs ++ sv ys = sv (xs ++ ys) := by simp [sv]
theorem sv_one (xs : List ByteArray) : ∀ u ∈ sv xs, u.oneCell' = true := by
  intro u hu
  simp only [sv, List.mem_map] at hu
  obtain ⟨c, _, rfl⟩ := hu
  rfl
theorem sv_zero (n : Nat) : List.replicate n (Value.string ⟨#[]⟩) = sv (List.replicate n ⟨#[]⟩) := by simp [sv]

/-- The slice of address a reads as xs. -/
def IsS (w : World) (a : Option Addr) (xs : List ByteArray) : Prop :=
  xs = [] ∨ ∃ b off, a = some ⟨b, off, none⟩ ∧ b < w.heap.size ∧ ∀ j (hj : j < xs.length), w.cell? ⟨b, off + j, none⟩ = some (.string xs[j])
theorem IsS.keptAt {w w1 : World} {a : Option Addr} {xs : List ByteArray} (h : IsS w a xs) (hs : w.heap.size ≤ w1.heap.size) (hk : ∀ x, a = some x → x.block < w.heap.size → w1.heap[x.block]? = w.heap[x.block]?) : IsS w1 a xs := by
  rcases h with h | ⟨b, off, rfl, hb, hc⟩
  · exact .inl h
  · refine .inr ⟨b, off, rfl, by omega, fun j hj => ?_⟩
    rw [World.cell?_of_block (w := w) (a := ⟨b, off + j, none⟩) (hk ⟨b, off, none⟩ rfl hb)]
    exact hc j hj
theorem IsS.below {w w1 : World} {a : Option Addr} {xs : List ByteArray} (h : IsS w a xs) (hb : Below w.heap.size w w1) : IsS w1 a xs :=
  h.keptAt hb.size (fun _ _ hx => hb.block _ hx)
theorem IsS.drewN {w : World} {a : Option Addr} {xs : List ByteArray} (h : IsS w a xs) (n : Nat) : IsS (w.drewN n) a xs := h
/-- The value v is a slice of the call's own (blocks from 'base' on) that holds xs. -/
def Own (w : World) (base : Nat) (v : Value) (xs : List ByteArray) : Prop := w.ownsRow base 9 1 v xs.length (sv xs)
theorem Own.nil (w : World) (base : Nat) : Own w base (.slice none 0 0) [] := World.ownsRow_nil _ _ _ _
theorem Own.iss {w : World} {base : Nat} {v : Value} {xs : List ByteArray} (h : Own w base v xs) : ∃ a cap, v = .slice a xs.length cap ∧ IsS w a xs := by
  have h' := h
  rcases h.2 with ⟨rfl, h0⟩ | ⟨g, cap, cur, rfl, hb, hh, _⟩
  · obtain rfl := List.length_eq_zero_iff.1 h0
    exact ⟨none, 0, rfl, .inl rfl⟩
  · refine ⟨_, cap, rfl, .inr ⟨g, 0, rfl, (Array.getElem?_eq_some_iff.1 hh).1, fun j hj => ?_⟩⟩
    rw [Nat.zero_add, World.ownsRow.cellAt h' j (by omega), sv_get xs j hj]
theorem Own.kept {w w1 : World} {base : Nat} {v : Value} {xs : List ByteArray} {row : Option Nat} (h : Own w base v xs) (hg : w.grownBy w1 row) (hne : v.ownBlock = none ∨ v.ownBlock ≠ row) : Own w1 base v xs := World.ownsRow.kept h hg hne
theorem Own.below {w w1 : World} {base : Nat} {v : Value} {xs : List ByteArray} (h : Own w base v xs) (hb : Below w.heap.size w w1) : Own w1 base v xs :=
  World.ownsRow.kept (row := none) h ⟨hb.os, hb.tape, hb.output, hb.size, fun k hk _ => hb.block k hk⟩ (by cases hv : v.ownBlock <;> simp)
theorem Own.mono {w : World} {base base' : Nat} {v : Value} {xs : List ByteArray} (h : Own w base v xs) (hb : base' ≤ base) : Own w base' v xs := by
  refine ⟨h.1, ?_⟩
  rcases h.2 with h | ⟨g, cap, cur, e, hb', r⟩
  · exact .inl h
  · exact .inr ⟨g, cap, cur, e, by omega, r⟩
theorem Own.ge {w : World} {base : Nat} {v : Value} {xs : List ByteArray} (h : Own w base v xs) : ∀ k, v.ownBlock = some k → base ≤ k ∧ k < w.heap.size := World.ownsRow.lt h
theorem Own.drewN {w : World} {base : Nat} {v : Value} {xs : List ByteArray} (h : Own w base v xs) (n : Nat) : Own (w.drewN n) base v xs := h
/-- A new slice that has just been made of n noughts. -/
theorem own_made {w : World} {base n : Nat} {v : Value} (h : w.ownsRow base 9 1 v n (madeCells (Value.string ⟨#[]⟩).cells (n * 1)).toList) : Own w base v (List.replicate n ⟨#[]⟩) := by
  unfold Own
  have e : (madeCells (Value.string ⟨#[]⟩).cells (n * 1)).toList = sv (List.replicate n ⟨#[]⟩) := by
    rw [Nat.mul_one, ← sv_zero]; exact toList_madeCells_one _ _
  rw [e] at h
  simpa using h
theorem Own.cell {w : World} {base g cap n : Nat} {xs : List ByteArray} (h : Own w base (.slice (some ⟨g, 0, none⟩) n cap) xs) (hn : xs.length = n) (j : Nat) (hj : j < xs.length) : w.cell? ⟨g, j, none⟩ = some (.string xs[j]) := by
  subst hn
  rw [World.ownsRow.cellAt h j (by omega), sv_get xs j hj]
theorem Own.frozen {w : World} {base g cap n : Nat} {xs : List ByteArray} (h : Own w base (.slice (some ⟨g, 0, none⟩) n cap) xs) (hn : xs.length = n) (j : Nat) : w.frozen? ⟨g, j, none⟩ = false := by
  subst hn
  exact World.ownsRow.frozenAt h j
theorem Own.set {w : World} {base g cap n : Nat} {xs : List ByteArray} (h : Own w base (.slice (some ⟨g, 0, none⟩) n cap) xs) (hn : xs.length = n) (j : Nat) (x : ByteArray) :
    Own (w.setCell ⟨g, j, none⟩ (.string x)) base (.slice (some ⟨g, 0, none⟩) n cap) (xs.set j x) := by
  subst hn
  have := (World.ownsRow.stored h j (.string x)).1
  rw [sv_set] at this
  unfold Own
  rwa [List.length_set]
theorem info_str : (Try.prog.info? 9).map (fun i => (i.zero, i.size, i.bytes)) = some (some (.string ⟨#[]⟩), 1, 16) := by kernel_rfl

/-- Of two lists of one length the first k numbers are alike. -/
def Like (xs ys : List ByteArray) (k : Nat) : Prop := ∀ j, j < k → xs[j]? = ys[j]?
theorem like_set {xs ys : List ByteArray} {k : Nat} (h : Like ys xs k) (hk : k < xs.length) (hl : ys.length = xs.length) : Like (ys.set k xs[k]) xs (k + 1) := by
  intro j hj
  rw [List.getElem?_set]
  split
  · rename_i e
    subst e
    rw [if_pos (by omega), List.getElem?_eq_getElem hk]
  · exact h j (by omega)
theorem like_all {xs ys : List ByteArray} (h : Like ys xs xs.length) (hl : ys.length = xs.length) : ys = xs := by
  apply List.ext_getElem?
  intro j
  by_cases hj : j < xs.length
  · exact h j hj
  · rw [List.getElem?_eq_none (by omega), List.getElem?_eq_none (by omega)]


theorem tl_inj {s t : ByteArray} (h : s.toList = t.toList) : s = t := by
  rw [Lib.toList_data, Lib.toList_data] at h
  obtain ⟨⟨l⟩⟩ := s
  obtain ⟨⟨r⟩⟩ := t
  simp at h
  rw [h]
theorem tl_eq {s t : ByteArray} (h : s = t) : (s.toList == t.toList) = true := by rw [h]; simp
theorem tl_ne {s t : ByteArray} (h : ¬ s = t) : (s.toList == t.toList) = false := by
  simp only [beq_eq_false_iff_ne]
  exact fun e => h (tl_inj e)
/-- What two lists say, held against one another number by number. -/
def eqs (xs ys : List ByteArray) : Bool := decide (xs = ys)
theorem eqs_len {xs ys : List ByteArray} (h : ¬ xs.length = ys.length) : eqs xs ys = false := by unfold eqs; simp; intro e; exact h (by rw [e])
theorem eqs_all {xs ys : List ByteArray} (h : Like xs ys ys.length) (hl : xs.length = ys.length) : eqs xs ys = true := by unfold eqs; simp; exact like_all h hl
theorem eqs_no {xs ys : List ByteArray} {k : Nat} (hx : k < xs.length) (hy : k < ys.length) (h : ¬ xs[k] = ys[k]) : eqs xs ys = false := by
  unfold eqs; simp; intro e; subst e; exact h rfl
theorem like_step {xs ys : List ByteArray} {k : Nat} (h : Like xs ys k) (hx : k < xs.length) (hy : k < ys.length) (e : xs[k] = ys[k]) : Like xs ys (k + 1) := by
  intro j hj
  by_cases hjk : j = k
  · subst hjk; rw [List.getElem?_eq_getElem hx, List.getElem?_eq_getElem hy, e]
  · exact h j (by omega)
theorem eqs_self (xs : List ByteArray) : eqs xs xs = true := by simp [eqs]

end Go.Proofs.Ytmfippeclkmhnaa.Ls
