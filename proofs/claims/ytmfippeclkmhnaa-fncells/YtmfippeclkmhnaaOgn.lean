/-
  Regions that draw numbers in whatever order: what the kinds of operations leave behind, and what holds all along.
-/
import Derived.Test.YtmfippeclkmhnaaCur
import Derived.Test.YtmfippeclkmhnaaSeM
import Derived.Test.YtmfippeclkmhnaaOin
namespace Go.Proofs.Ytmfippeclkmhnaa.Og
open Go.RowKit
open Go.Proofs.Ytmfippeclkmhnaa.Oi
open Go.Proofs.Ytmfippeclkmhnaa.Sv (Wr)
set_option linter.unusedVariables false

/-- A pointer to the cursor; a number within bounds; any number; a table of numbers; a place in one; a value with a property; a new variable. -/
inductive Kd where
  | ptr
  | int (lo hi : Int)
  | num
  | tab (n : Nat)
  | elem
  | sat (Q : Value → Prop)
  | box (zs : List Value)
def psi (b H : Nat) : Kd → Value → World → Prop
  | .ptr, x, _ => x = .pointer (some ⟨b, 0, none⟩)
  | .int lo hi, x, _ => ∃ y, x = .int .i64 y ∧ lo ≤ y ∧ y ≤ hi
  | .num, x, _ => ∃ y, x = .int .i64 y
  | .tab n, x, w => ∃ g, x = .slice (some ⟨g, 0, none⟩) n n ∧ ¬ g = b ∧ g < w.heap.size ∧ ∀ t : Nat, t < n → ∃ z, w.cell? ⟨g, t, none⟩ = some (.int .i64 z)
  | .elem, x, w => ∃ g t z, x = .pointer (some ⟨g, t, none⟩) ∧ ¬ g = b ∧ g < w.heap.size ∧ w.cell? ⟨g, t, none⟩ = some (.int .i64 z)
  | .sat Q, x, _ => Q x
  | .box zs, x, w => ∃ g, x = .pointer (some ⟨g, 0, none⟩) ∧ ¬ g = b ∧ H < g ∧ Wr w g 0 zs
/-- All but the cursor's block stays. -/
def Rl (b : Nat) (w w' : World) : Prop := w.heap.size ≤ w'.heap.size ∧ ∀ k, k < w.heap.size → ¬ k = b → w'.heap[k]? = w.heap[k]?
theorem rl_refl (b : Nat) (w : World) : Rl b w w := ⟨Nat.le_refl _, fun _ _ _ => rfl⟩
theorem rl_grown {b : Nat} {w w' : World} (h : w.grownBy w' (some b)) : Rl b w w' := ⟨h.size, fun k hk hn => h.block k hk (fun e => hn (by injection e))⟩
theorem rl_alloc (b : Nat) (w : World) (o : Obj) : Rl b w (w.alloc o) := ⟨by simp, fun k hk _ => Below.heap_alloc _ _ _ hk⟩
theorem psi_rl {b H : Nat} {w w' : World} (h : Rl b w w') : ∀ {c : Kd} {x : Value}, psi b H c x w → psi b H c x w'
  | .ptr, _, hx => hx
  | .int _ _, _, hx => hx
  | .num, _, hx => hx
  | .tab _, _, ⟨g, e, hb, hl, hc⟩ => ⟨g, e, hb, Nat.lt_of_lt_of_le hl h.1, fun t ht => by
      obtain ⟨z, hz⟩ := hc t ht
      exact ⟨z, by rw [World.cell?_of_block (w := w) (a := ⟨g, t, none⟩) (h.2 g hl hb)]; exact hz⟩⟩
  | .elem, _, ⟨g, t, z, e, hb, hl, hc⟩ => ⟨g, t, z, e, hb, Nat.lt_of_lt_of_le hl h.1, by rw [World.cell?_of_block (w := w) (a := ⟨g, t, none⟩) (h.2 g hl hb)]; exact hc⟩
  | .sat _, _, hx => hx
  | .box _, _, ⟨g, e, hb, hH, hw⟩ => ⟨g, e, hb, hH, hw.keptAt h.1 (h.2 g hw.1 hb)⟩
/-- What holds in whatever order they come up: n is the last, which waits for all. -/
def Inv (b H n : Nat) (K : Int) (W : World) (mk : (Nat → Value) → Act) (kds : List Kd) (dst : List Nat) (Fin : Act → World → Prop) (l : Array Bool) (a : Act) (w : World) : Prop :=
  (l.getD n false = true ∧ (∀ i, i < n + 1 → l.getD i false = true) ∧ Fin a w) ∨
  (l.getD n false = false ∧ ∃ v, a = mk v ∧ W.grownBy w (some b) ∧ Cu.Cur w b (K + 2 * cnt l) ∧ ∀ i, i < n → l.getD i false = true → psi b H (kds.getD i .ptr) (v (dst.getD i 100000)) w)
section
variable {b H n : Nat} {K : Int} {W w w' : World} {mk : (Nat → Value) → Act} {kds : List Kd} {dst : List Nat} {Fin : Act → World → Prop} {l : Array Bool} {a a' : Act}
theorem inv_put {v : Nat → Value} {j : Nat} {x : Value} (hinj : ∀ i, i < n → ∀ j, j < n → dst.getD i 100000 = dst.getD j 100000 → i = j) (hj : j < n) (hjf : l.getD j true = false) (hn : l.getD n false = false) (hv : ∀ i, i < n → l.getD i false = true → psi b H (kds.getD i .ptr) (v (dst.getD i 100000)) w)
    (hR : Rl b w w') (hg : W.grownBy w' (some b)) (hc : Cu.Cur w' b (K + 2 * cnt l + 2)) (hx : psi b H (kds.getD j .ptr) x w') : Inv b H n K W mk kds dst Fin (l.setIfInBounds j true) (mk (upd v (dst.getD j 100000) x)) w' := by
  refine .inr ⟨by rw [getD_set_ne false (by omega)]; exact hn, _, rfl, hg, by rw [cnt_set hjf]; exact hc.mono (by omega), fun i hi hd => ?_⟩
  by_cases e : i = j
  · subst e; rw [upd_same]; exact hx
  · rw [upd_ne (fun h => e (hinj i hi j hj h))]
    exact psi_rl hR (hv i hi (done_set hd e))
theorem act_eq (h : Inv b H n K W mk kds dst Fin l a w) (e : a = a') : Inv b H n K W mk kds dst Fin l a' w := e ▸ h
theorem rep_false (n i : Nat) : (Array.replicate n false).getD i false = false := by
  rw [Array.getD_eq_getD_getElem?, Array.getElem?_replicate]
  split <;> rfl
theorem inv_start {s : Nat} (hc : Cu.Cur W b K) (hW : W.grownBy W (some b)) (v : Nat → Value) (e : a = mk v) : Inv b H n K W mk kds dst Fin (Array.replicate s false) a W.drew :=
  .inr ⟨rep_false _ _, v, e, ⟨rfl, rfl, rfl, Nat.le_refl _, fun _ _ _ => rfl⟩, hc.drew.mono (by omega), fun i hi hd => by rw [rep_false] at hd; cases hd⟩
theorem inv_last {m : Nat} (hs : l.size = m) (hm : n < m) (hall : ∀ i, i < n → l.getD i false = true) (h : Fin a w) : Inv b H n K W mk kds dst Fin (l.setIfInBounds n true) a w := by
  have hn : (l.setIfInBounds n true).getD n false = true := by rw [Array.getD_eq_getD_getElem?, Array.getElem?_setIfInBounds_self_of_lt (by omega)]; rfl
  refine .inl ⟨hn, fun i hi => ?_, h⟩
  by_cases e : i = n
  · subst e; exact hn
  · exact set_done (hall i (by omega))
theorem not_done {j : Nat} (hjf : l.getD j true = false) (h : l.getD j false = true) : False := by
  obtain ⟨h2, h3⟩ := getD_false hjf
  rw [Array.getD_eq_getD_getElem?, h3] at h
  simp at h
end
theorem tab_new (w : World) (zs : List Int) (T : TypeId) (t : Nat) (ht : t < zs.length) : ∃ u, (w.alloc (.cells (zs.map fun z => Value.int .i64 z).toArray T)).cell? ⟨w.heap.size, t, none⟩ = some (.int .i64 u) :=
  ⟨zs[t], by rw [World.cell?_alloc_new]; simp [ht]⟩
end Go.Proofs.Ytmfippeclkmhnaa.Og
