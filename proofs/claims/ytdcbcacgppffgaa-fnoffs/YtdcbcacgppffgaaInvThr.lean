/-
  Inverse and Through of the program and of the model: of an order the inverse, the list mixed through it; of what is none, nothing. What they answer lies in new memory; old memory stays.
-/
import Derived.Test.YtdcbcacgppffgaaPermW
namespace Go.Proofs.Ytdcbcacgppffgaa.It
open Go.RowKit
open Go.Proofs.Ytdcbcacgppffgaa.Li Go.Proofs.Ytdcbcacgppffgaa.Pe Go.Proofs.Ytdcbcacgppffgaa.Pw

/-- The inverse as far as it is filled. -/
def Fill (xs l : List Int) (k : Nat) : Prop := ∀ j (hj : j < xs.length), j < k → l[xs[j].toNat]? = some (j : Int)
theorem fill_succ {xs l : List Int} {k : Nat} (hp : POk xs) (h : Fill xs l k) (hl : l.length = xs.length) (hk : k < xs.length) : Fill xs (l.set xs[k].toNat (k : Int)) (k + 1) := by
  intro j hj hjk
  have hr := hp.rng k hk
  have hr' := hp.rng j hj
  rw [List.getElem?_set]
  by_cases e : j = k
  · subst e
    rw [if_pos rfl, if_pos (by omega)]
  · rw [if_neg (by intro h'; exact e (hp.inj j k hj hk (by omega)))]
    exact h j hj (by omega)
theorem fill_inv {xs l : List Int} (h : Fill xs l xs.length) (hl : l.length = xs.length) : IsInv xs l := ⟨hl, fun j hj => h j hj hj⟩
theorem thr_take {xs ls : List Int} {k : Nat} (hk : k < xs.length) (hp : xs[k].toNat < ls.length) : (thr xs ls).take (k + 1) = (thr xs ls).take k ++ [ls[xs[k].toNat]] := by
  rw [List.take_succ_eq_append_getElem (by rw [thr_length]; exact hk), thr_get k hk hp]
theorem thr_like {xs ls l : List Int} {k : Nat} (h : Like l (thr xs ls) k) (hk : k < xs.length) (hl : l.length = xs.length) (hp : xs[k].toNat < ls.length) : Like (l.set k ls[xs[k].toNat]) (thr xs ls) (k + 1) := by
  have := like_set h (by rw [thr_length]; exact hk) (by rw [thr_length]; exact hl)
  rwa [thr_get k hk hp] at this
theorem one_cell (w : World) (T : TypeId) (x : Int) : ∀ j u, ([Value.int .i64 x] : List Value)[j]? = some u → (w.alloc (.cells #[.int .i64 x] T)).cell? ((⟨w.heap.size, 0, none⟩ : Addr).add j) = some u := by
  intro j u hj
  match j, hj with
  | 0, hj => simp at hj; subst hj; simp [Addr.add]
theorem one_one (x : Int) : ∀ u ∈ ([Value.int .i64 x] : List Value), u.oneCell' = true := by
  intro u hu; simp at hu; subst hu; rfl
theorem own_snoc {w : World} {base n : Nat} {v : Value} {l : List Int} {x : Int} (hn : l.length = n) (h : w.ownsRow base 3 1 v (n + 1) (iv l ++ [.int .i64 x])) : Own w base v (l ++ [x]) := by
  subst hn
  unfold Own
  rw [← iv_append, List.length_append]
  exact h
theorem own_empty (w : World) (base : Nat) (hb : base ≤ w.heap.size) : Own (w.alloc (.cells #[] 3)) base (.slice (some ⟨w.heap.size, 0, none⟩) 0 0) [] :=
  World.ownsRow_made w #[] 0 hb (by unfold maxLen; omega) (by simp)


/-- What both answer for the inverse. -/
def InvR (xs ys : List Int) : Prop := (POk xs ∧ IsInv xs ys) ∨ (¬ POk xs ∧ ys = [])
theorem InvR.uniq {xs ys zs : List Int} (h : InvR xs ys) (h' : InvR xs zs) : ys = zs := by
  rcases h with ⟨h, h1⟩ | ⟨h, h1⟩ <;> rcases h' with ⟨h', h2⟩ | ⟨h', h2⟩
  · exact h1.uniq h h2
  · exact absurd h h'
  · exact absurd h' h
  · rw [h1, h2]
theorem InvR.len {xs ys : List Int} (h : InvR xs ys) : ys.length ≤ 60 := by
  rcases h with ⟨h, h1⟩ | ⟨h, h1⟩
  · rw [h1.1]; exact h.1
  · rw [h1]; simp
/-- What both answer for a list mixed through. -/
noncomputable def thrR (xs ls : List Int) : List Int := if pok xs = true ∧ xs.length = ls.length then thr xs ls else []
theorem thrR_len (xs ls : List Int) : (thrR xs ls).length ≤ 60 := by
  unfold thrR
  split
  · rename_i h; rw [thr_length]; exact (pok_iff.1 h.1).1
  · simp
end Go.Proofs.Ytdcbcacgppffgaa.It
