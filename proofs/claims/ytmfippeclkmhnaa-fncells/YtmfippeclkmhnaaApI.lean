/-
  append: a number put behind a list of the call's own; a list that has just been made empty; frames.
-/
import Derived.Test.YtmfippeclkmhnaaSiz
import Derived.Deep.AppendLies
import Derived.Deep.RegionLaw
import Derived.Deep.RegionWith
namespace Go.Proofs.Ytmfippeclkmhnaa.Ai
open Go.RowKit
open Go.Proofs.Ytmfippeclkmhnaa.Li
theorem one_cell (w : World) (T : TypeId) (x : Int) : ∀ j u, ([Value.int .i64 x] : List Value)[j]? = some u → (w.alloc (.cells #[.int .i64 x] T)).cell? ((⟨w.heap.size, 0, none⟩ : Addr).add j) = some u := by
  intro j u hj
  match j, hj with
  | 0, hj => simp at hj; subst hj; simp [Addr.add]
theorem one_at {w : World} {T : TypeId} {x : Int} {H : Nat} (h : w.heap.size = H) : ∀ j u, ([Value.int .i64 x] : List Value)[j]? = some u → (w.alloc (.cells #[.int .i64 x] T)).cell? ((⟨H, 0, none⟩ : Addr).add j) = some u := by
  subst h; exact one_cell _ _ _
theorem one_one (x : Int) : ∀ u ∈ ([Value.int .i64 x] : List Value), u.oneCell' = true := by
  intro u hu; simp at hu; subst hu; rfl
theorem own_snoc {w : World} {base n : Nat} {v : Value} {l : List Int} {x : Int} (hn : l.length = n) (h : w.ownsRow base 3 1 v (n + 1) (iv l ++ [.int .i64 x])) : Own w base v (l ++ [x]) := by
  subst hn
  unfold Own
  rw [← iv_append, List.length_append]
  exact h
theorem own_cat {w : World} {base n : Nat} {v : Value} {l m : List Int} (hn : l.length = n) (h : w.ownsRow base 3 1 v (n + m.length) (iv l ++ iv m)) : Own w base v (l ++ m) := by
  subst hn
  unfold Own
  rw [← iv_append, List.length_append]
  exact h
theorem own_empty (w : World) (base : Nat) (hb : base ≤ w.heap.size) : Own (w.alloc (.cells #[] 3)) base (.slice (some ⟨w.heap.size, 0, none⟩) 0 0) [] :=
  World.ownsRow_made w #[] 0 hb (by unfold maxLen; omega) (by simp)
/-- What a list reads as, for an append of all of it. -/
theorem news_i {w : World} {ad : Addr} {xs : List Int} (h : IsL w (some ad) xs) : ∀ j u, (iv xs)[j]? = some u → w.cell? (ad.add j) = some u := by
  intro j u hj
  rcases h with rfl | ⟨b, off, e, _, hc⟩
  · simp [iv] at hj
  · cases e
    have hlt : j < xs.length := by
      apply Classical.byContradiction
      intro hn
      rw [List.getElem?_eq_none (by rw [iv_length]; omega)] at hj
      cases hj
    rw [iv_get xs j hlt] at hj
    rw [Go.WideShapes.add_plain, hc j hlt, hj]
/-- What grows in the call's own blocks turns nothing below. -/
theorem below_app {w wr w1 : World} {B : Nat} {r : Option Nat} (hB : Below B w wr) (hs : B ≤ wr.heap.size) (hg : wr.grownBy w1 r) (hr : ∀ k, r = some k → B ≤ k) : Below B w w1 :=
  hB.trans ⟨hg.os, hg.tape, hg.output, hg.size, fun k hk => hg.block k (by omega) (fun e => by have := hr k e.symm; omega)⟩
theorem grown_undrew {w w1 : World} {r : Option Nat} (h : w.drew.grownBy w1 r) : w.grownBy w1 r := ⟨h.os, h.tape, h.output, h.size, h.block⟩
theorem grown_of_below {w w1 w2 : World} {b : Nat} (h : w.grownBy w1 (some b)) (hB : Below w1.heap.size w1 w2) : w.grownBy w2 (some b) :=
  ⟨hB.os.trans h.os, hB.tape.trans h.tape, hB.output.trans h.output, Nat.le_trans h.size hB.size, fun k hk hr => (hB.block k (Nat.lt_of_lt_of_le hk h.size)).trans (h.block k hk hr)⟩
/-- What lies in new blocks stays where the cursor goes on. -/
theorem own_cur {w w1 : World} {b B : Nat} {v : Value} {xs : List Int} (h : Own w B v xs) (hg : w.grownBy w1 (some b)) (hb : b < B) : Own w1 B v xs := by
  refine h.kept hg ?_
  cases e : v.ownBlock with
  | none => exact .inl rfl
  | some k => exact .inr (by have := (h.ge k e).1; simp; omega)
/-- A write into a block that was made since. -/
theorem grown_new {w w1 w2 : World} {b : Nat} {r : Option Nat} (h : w.grownBy w1 (some b)) (h' : w1.grownBy w2 r) (hr : ∀ k, r = some k → w.heap.size ≤ k) : w.grownBy w2 (some b) :=
  ⟨h'.os.trans h.os, h'.tape.trans h.tape, h'.output.trans h.output, Nat.le_trans h.size h'.size, fun k hk hne => (h'.block k (Nat.lt_of_lt_of_le hk h.size) (fun e => by have := hr k e.symm; omega)).trans (h.block k hk hne)⟩
/-- What lies below B lies apart from what is owned from B on. -/
theorem sepB {w : World} {B : Nat} {v v' : Value} {ys : List Int} (h : ∀ k, v.ownBlock = some k → k < B) (h' : Own w B v' ys) : v.ownBlock = none ∨ v.ownBlock ≠ v'.ownBlock := by
  cases e : v.ownBlock with
  | none => exact .inl rfl
  | some k => exact .inr fun e' => by have := h k e; have := (h'.ge k e'.symm).1; omega
end Go.Proofs.Ytmfippeclkmhnaa.Ai
