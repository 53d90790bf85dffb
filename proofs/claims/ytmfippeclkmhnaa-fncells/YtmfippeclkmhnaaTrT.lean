/-
  A tree as the laws hold it: a copy, a comparison, marks and whether they are held.
-/
import Derived.Test.YtmfippeclkmhnaaTrM
namespace Go.Proofs.Ytmfippeclkmhnaa.Tm
open Go.RowKit
open Go.Proofs.Ytmfippeclkmhnaa.Li (ret_bool ret_int below_none)
open Go.Proofs.Ytmfippeclkmhnaa.Tb (sub sub_yes sub_no)

/-- A variable of two cells. -/
def Box2 (w : World) (b : Nat) (v0 v1 : Value) : Prop :=
  b < w.heap.size ∧ (w.cell? ⟨b, 0, none⟩ = some v0 ∧ w.cell? ⟨b, 1, none⟩ = some v1) ∧ w.frozen? ⟨b, 0, none⟩ = false ∧ w.frozen? ⟨b, 1, none⟩ = false
theorem Box2.keptAt {w w1 : World} {b : Nat} {v0 v1 : Value} (h : Box2 w b v0 v1) (hs : w.heap.size ≤ w1.heap.size) (hb : w1.heap[b]? = w.heap[b]?) : Box2 w1 b v0 v1 := by
  obtain ⟨hlt, ⟨c0, c1⟩, f0, f1⟩ := h
  refine ⟨by omega, ⟨?_, ?_⟩, ?_, ?_⟩
  · rw [World.cell?_of_block (w := w) (a := ⟨b, 0, none⟩) hb]; exact c0
  · rw [World.cell?_of_block (w := w) (a := ⟨b, 1, none⟩) hb]; exact c1
  · rw [World.frozen?_of_block (w := w) (a := ⟨b, 0, none⟩) hb]; exact f0
  · rw [World.frozen?_of_block (w := w) (a := ⟨b, 1, none⟩) hb]; exact f1
theorem Box2.below {w w1 : World} {b : Nat} {v0 v1 : Value} (h : Box2 w b v0 v1) (hB : Below w.heap.size w w1) : Box2 w1 b v0 v1 := h.keptAt hB.size (hB.block b h.1)
theorem Box2.setOther {w : World} {b g o : Nat} {v0 v1 v : Value} (h : Box2 w b v0 v1) (hne : ¬ b = g) : Box2 (w.setCell ⟨g, o, none⟩ v) b v0 v1 :=
  h.keptAt (by simp [World.setCell]) (Below.heap_setCell _ _ _ _ (fun e => hne (by simpa using e)))
theorem Box2.set0 {w : World} {b : Nat} {v0 v1 : Value} (h : Box2 w b v0 v1) (v : Value) : Box2 (w.setCell ⟨b, 0, none⟩ v) b v v1 := by
  obtain ⟨hlt, ⟨c0, c1⟩, f0, f1⟩ := h
  refine ⟨by simpa [World.setCell] using hlt, ⟨World.cell?_setCell_same _ _ _ c0, ?_⟩, ?_, ?_⟩
  · rw [World.cell?_setCell_other _ _ _ _ (by simp)]; exact c1
  all_goals (rw [World.frozen?_setCell]; assumption)
theorem Box2.set1 {w : World} {b : Nat} {v0 v1 : Value} (h : Box2 w b v0 v1) (v : Value) : Box2 (w.setCell ⟨b, 1, none⟩ v) b v0 v := by
  obtain ⟨hlt, ⟨c0, c1⟩, f0, f1⟩ := h
  refine ⟨by simpa [World.setCell] using hlt, ⟨?_, World.cell?_setCell_same _ _ _ c1⟩, ?_, ?_⟩
  · rw [World.cell?_setCell_other _ _ _ _ (by simp)]; exact c0
  all_goals (rw [World.frozen?_setCell]; assumption)
theorem box2_new (w : World) (v0 v1 : Value) (T : TypeId) : Box2 (w.alloc (.cells #[v0, v1] T)) w.heap.size v0 v1 :=
  ⟨by simp, ⟨by simp [World.cell?_alloc_new], by simp [World.cell?_alloc_new]⟩, by simp, by simp⟩
theorem Box2.alloc {w : World} {b : Nat} {v0 v1 : Value} (h : Box2 w b v0 v1) (o : Obj) : Box2 (w.alloc o) b v0 v1 := h.below ((Below.refl _ _).alloc (Nat.le_refl _) _)
theorem Box2.drewN {w : World} {b : Nat} {v0 v1 : Value} (h : Box2 w b v0 v1) (n : Nat) : Box2 (w.drewN n) b v0 v1 := h
theorem size_alloc (w : World) (o : Obj) : (w.alloc o).heap.size = w.heap.size + 1 := by simp
/-- One, two, three variables of two cells, one behind the other. -/
theorem boxes1 (w : World) (v0 v1 : Value) (T : TypeId) : ∃ W, w.alloc (.cells #[v0, v1] T) = W ∧ W.heap.size = w.heap.size + 1 ∧ Below w.heap.size w W ∧ Box2 W w.heap.size v0 v1 :=
  ⟨_, rfl, by simp, (Below.refl _ _).alloc (Nat.le_refl _) _, box2_new _ _ _ _⟩
theorem boxes2 (w : World) (v0 v1 x0 x1 : Value) (T U : TypeId) : ∃ W, (w.alloc (.cells #[v0, v1] T)).alloc (.cells #[x0, x1] U) = W ∧ W.heap.size = w.heap.size + 2 ∧ Below w.heap.size w W ∧ Box2 W w.heap.size v0 v1 ∧ Box2 W (w.heap.size + 1) x0 x1 := by
  refine ⟨_, rfl, by simp, ((Below.refl _ _).alloc (Nat.le_refl _) _).alloc (by simp) _, ?_, ?_⟩
  · exact (box2_new _ _ _ _).alloc _
  · have := box2_new (w.alloc (.cells #[v0, v1] T)) x0 x1 U
    rwa [size_alloc] at this
theorem boxes3 (w : World) (v0 v1 x0 x1 y0 y1 : Value) (T U V : TypeId) : ∃ W, ((w.alloc (.cells #[v0, v1] T)).alloc (.cells #[x0, x1] U)).alloc (.cells #[y0, y1] V) = W ∧ W.heap.size = w.heap.size + 3 ∧ Below w.heap.size w W ∧ Box2 W w.heap.size v0 v1 ∧ Box2 W (w.heap.size + 1) x0 x1 ∧ Box2 W (w.heap.size + 2) y0 y1 := by
  refine ⟨_, rfl, by simp, (((Below.refl _ _).alloc (Nat.le_refl _) _).alloc (by simp) _).alloc (by simp; omega) _, ?_, ?_, ?_⟩
  · exact ((box2_new _ _ _ _).alloc _).alloc _
  · have := (box2_new (w.alloc (.cells #[v0, v1] T)) x0 x1 U).alloc (.cells #[y0, y1] V)
    rwa [size_alloc] at this
  · have := box2_new ((w.alloc (.cells #[v0, v1] T)).alloc (.cells #[x0, x1] U)) y0 y1 V
    rwa [size_alloc, size_alloc] at this
theorem own_off {w w1 : World} {B b : Nat} {v : Value} {xs : List Int} (h : Li.Own w B v xs) (hg : w.grownBy w1 (some b)) (hb : b < B) : Li.Own w1 B v xs := by
  refine h.kept hg ?_
  cases e : v.ownBlock with
  | none => exact .inl rfl
  | some k => exact .inr (by have := (h.ge k e).1; simp; omega)
theorem ownP_off {w w1 : World} {B b : Nat} {v : Value} {xs : List (Int × Int)} (h : OwnP w B v xs) (hg : w.grownBy w1 (some b)) (hb : b < B) : OwnP w1 B v xs := by
  refine h.kept hg ?_
  cases e : v.ownBlock with
  | none => exact .inl rfl
  | some k => exact .inr (by have := (h.ge k e).1; simp; omega)
/-- Two slices of the call's own lie apart, both ways. -/
def Apt (u v : Value) : Prop := (v.ownBlock = none ∨ v.ownBlock ≠ u.ownBlock) ∧ (u.ownBlock = none ∨ u.ownBlock ≠ v.ownBlock)
theorem apt_of {u v : Value} (h : ∀ k, u.ownBlock = some k → v.ownBlock = some k → False) : Apt u v := by
  unfold Apt
  cases e : u.ownBlock with
  | none => exact ⟨by cases e' : v.ownBlock <;> simp, .inl rfl⟩
  | some k =>
    cases e' : v.ownBlock with
    | none => exact ⟨.inl rfl, by simp⟩
    | some k' => 
      have : ¬ k = k' := fun e2 => h k e (by rw [e', e2])
      exact ⟨.inr (by simp; omega), .inr (by simp; omega)⟩

/-- What two blocks alone have been written into. -/
structure Fr2 (w w1 : World) (r r' : Option Nat) : Prop where
  os : w1.os = w.os
  tape : w1.tape = w.tape
  output : w1.output = w.output
  size : w.heap.size ≤ w1.heap.size
  block : ∀ k, k < w.heap.size → ¬ some k = r → ¬ some k = r' → w1.heap[k]? = w.heap[k]?
theorem fr2_of {w w1 w2 w3 : World} {r r' : Option Nat} (h0 : Below w.heap.size w w1) (h : w1.grownBy w2 r) (h' : w2.grownBy w3 r') : Fr2 w w3 r r' :=
  ⟨h'.os.trans (h.os.trans h0.os), h'.tape.trans (h.tape.trans h0.tape), h'.output.trans (h.output.trans h0.output), Nat.le_trans h0.size (Nat.le_trans h.size h'.size),
   fun k hk hr hr' => (h'.block k (Nat.lt_of_lt_of_le hk (Nat.le_trans h0.size h.size)) hr').trans ((h.block k (Nat.lt_of_lt_of_le hk h0.size) hr).trans (h0.block k hk))⟩
theorem ownsRow_at {w w1 : World} {base : Nat} {e : TypeId} {size : Nat} {v : Value} {n : Nat} {xs : List Value} (h : w.ownsRow base e size v n xs) (hk : ∀ k, v.ownBlock = some k → w1.heap[k]? = w.heap[k]?) : w1.ownsRow base e size v n xs := by
  refine ⟨h.1, ?_⟩
  rcases h.2 with h | ⟨g, cap, cur, rfl, hb, hh, r⟩
  · exact .inl h
  · exact .inr ⟨g, cap, cur, rfl, hb, by rw [hk g rfl]; exact hh, r⟩
theorem kept2 {w w1 : World} {base s n : Nat} {t : TypeId} {v : Value} {xs : List Value} {r r' : Option Nat} (h : w.ownsRow base t s v n xs) (hg : Fr2 w w1 r r') (hne : v.ownBlock = none ∨ v.ownBlock ≠ r) (hne' : v.ownBlock = none ∨ v.ownBlock ≠ r') : w1.ownsRow base t s v n xs :=
  ownsRow_at h fun k e => hg.block k (World.ownsRow.lt h k e).2 (fun e' => by rcases hne with h1 | h1; (· rw [h1] at e; cases e); (· exact h1 (e.trans e'))) (fun e' => by rcases hne' with h1 | h1; (· rw [h1] at e; cases e); (· exact h1 (e.trans e')))
theorem Own.kept2 {w w1 : World} {base : Nat} {v : Value} {xs : List Int} {r r' : Option Nat} (h : Li.Own w base v xs) (hg : Fr2 w w1 r r') (hne : v.ownBlock = none ∨ v.ownBlock ≠ r) (hne' : v.ownBlock = none ∨ v.ownBlock ≠ r') : Li.Own w1 base v xs := Tm.kept2 h hg hne hne'
theorem OwnP.kept2 {w w1 : World} {base : Nat} {v : Value} {xs : List (Int × Int)} {r r' : Option Nat} (h : OwnP w base v xs) (hg : Fr2 w w1 r r') (hne : v.ownBlock = none ∨ v.ownBlock ≠ r) (hne' : v.ownBlock = none ∨ v.ownBlock ≠ r') : OwnP w1 base v xs := Tm.kept2 h hg hne hne'
theorem Fr2.bel {w w1 : World} {B : Nat} {u v : Value} (h : Fr2 w w1 u.ownBlock v.ownBlock) (hu : ∀ k, u.ownBlock = some k → B ≤ k) (hv : ∀ k, v.ownBlock = some k → B ≤ k) (hB : B ≤ w.heap.size) : Below B w w1 :=
  ⟨h.os, h.tape, h.output, h.size, fun k hk => h.block k (by omega) (fun e => by have := hu k e.symm; omega) (fun e => by have := hv k e.symm; omega)⟩

def pmarks (k : Int) (n : Nat) : List (Int × Int) := (List.range n).map fun (j : Nat) => (k + 2 * (j : Int), k + 2 * (j : Int) + 1)
theorem pmarks_length (k : Int) (n : Nat) : (pmarks k n).length = n := by simp [pmarks]
theorem pmarks_get (k : Int) (n j : Nat) (h : j < (pmarks k n).length) : (pmarks k n)[j] = (k + 2 * (j : Int), k + 2 * (j : Int) + 1) := by simp [pmarks]
/-- What v owns is not block b. -/
def NB (v : Value) (b : Nat) : Prop := ∀ k, v.ownBlock = some k → ¬ k = b
theorem nbB {w : World} {base s n b : Nat} {t : TypeId} {v : Value} {xs : List Value} (h : w.ownsRow base t s v n xs) (hb : b < base) : NB v b := fun k hk => by have := (World.ownsRow.lt h k hk).1; omega
theorem nbA {w : World} {base s n : Nat} {t : TypeId} {v : Value} {xs : List Value} (h : w.ownsRow base t s v n xs) : NB v w.heap.size := fun k hk => by have := (World.ownsRow.lt h k hk).2; omega
theorem isp_of {w w1 : World} {n m : Nat} {x : Addr} {ps : List (Int × Int)} (h : ∃ a cap, Value.slice (some x) n m = .slice a ps.length cap ∧ ps.length ≤ cap ∧ IsP w a ps) (hb : Below w.heap.size w w1) : IsP w1 (some x) ps := by
  obtain ⟨a, cap, e, _, hi⟩ := h
  cases e
  exact hi.below hb
theorem isl_of' {w w1 : World} {n m : Nat} {x : Addr} {ps : List Int} (h : ∃ a cap, Value.slice (some x) n m = .slice a ps.length cap ∧ Li.IsL w a ps) (hb : Below w.heap.size w w1) : Li.IsL w1 (some x) ps := by
  obtain ⟨a, cap, e, hi⟩ := h
  cases e
  exact hi.below hb
theorem below_drew (w : World) : Below w.heap.size w w.drew := ⟨rfl, rfl, rfl, Nat.le_refl _, fun _ _ => rfl⟩
end Go.Proofs.Ytmfippeclkmhnaa.Tm
