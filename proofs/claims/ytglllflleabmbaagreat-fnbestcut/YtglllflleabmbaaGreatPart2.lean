/-
  Contracts that the proof leans on, put together in the order in which they build.
-/
import Derived.Test.YtglllflleabmbaaGreatPart1
import Derived.Deep.RegionWith
import Derived.Deep.QuietTactic
import Derived.BigQuiet
import Derived.BigRegion
import Derived.Deep.RegionHeld3
import Derived.Deep.MidRow
import Derived.Deep.AppendLies
import Derived.Deep.RegionLaw
import Derived.Laws.Cover3
/-
  Trees as the laws and both texts hold them: lists of questions, a tree; contracts of the laws' own helpers (how great, a copy, a comparison, marks and whether they are held).
-/
namespace Go.Proofs.YtglllflleabmbaaGreat.Tm
open Go.RowKit
open Go.Proofs.YtglllflleabmbaaGreat.Li (ret_bool ret_int below_none)
open Go.Proofs.YtglllflleabmbaaGreat.Tb (sub sub_yes sub_no)

def pv : List (Int × Int) → List Value
  | [] => []
  | p :: ps => .int .i64 p.1 :: .int .i64 p.2 :: pv ps
theorem pv_length (ps : List (Int × Int)) : (pv ps).length = ps.length * 2 := by
  induction ps with
  | nil => rfl
  | cons p ps ih => simp only [pv, List.length_cons, ih]; omega
theorem pv_get (ps : List (Int × Int)) (j : Nat) (h : j < ps.length) : (pv ps)[j * 2]? = some (.int .i64 ps[j].1) ∧ (pv ps)[j * 2 + 1]? = some (.int .i64 ps[j].2) := by
  induction ps generalizing j with
  | nil => simp at h
  | cons p ps ih =>
    cases j with
    | zero => exact ⟨rfl, rfl⟩
    | succ j =>
      have := ih j (by simpa using h)
      rw [show (j + 1) * 2 = j * 2 + 1 + 1 by omega]
      simpa [pv] using this
theorem pv_set (ps : List (Int × Int)) (j : Nat) (x y : Int) : ((pv ps).set (j * 2) (.int .i64 x)).set (j * 2 + 1) (.int .i64 y) = pv (ps.set j (x, y)) := by
  induction ps generalizing j with
  | nil => simp [pv]
  | cons p ps ih =>
    cases j with
    | zero => simp [pv]
    | succ j =>
      rw [show (j + 1) * 2 = j * 2 + 1 + 1 by omega]
      simp only [pv, List.set_cons_succ, ih]
theorem pv_append (ps qs : List (Int × Int)) : pv ps ++ pv qs = pv (ps ++ qs) := by
  induction ps with
  | nil => rfl
  | cons p ps ih => simp [pv, ih]
def IsP (w : World) (a : Option Addr) (ps : List (Int × Int)) : Prop :=
  ps = [] ∨ ∃ b off, a = some ⟨b, off, none⟩ ∧ b < w.heap.size ∧ ∀ j (hj : j < ps.length), w.cell? ⟨b, off + j * 2, none⟩ = some (.int .i64 ps[j].1) ∧ w.cell? ⟨b, off + j * 2 + 1, none⟩ = some (.int .i64 ps[j].2)
theorem IsP.keptAt {w w1 : World} {a : Option Addr} {ps : List (Int × Int)} (h : IsP w a ps) (hs : w.heap.size ≤ w1.heap.size) (hk : ∀ x, a = some x → x.block < w.heap.size → w1.heap[x.block]? = w.heap[x.block]?) : IsP w1 a ps := by
  rcases h with h | ⟨b, off, rfl, hb, hc⟩
  · exact .inl h
  · refine .inr ⟨b, off, rfl, by omega, fun j hj => ⟨?_, ?_⟩⟩
    · rw [World.cell?_of_block (w := w) (a := ⟨b, off + j * 2, none⟩) (hk ⟨b, off, none⟩ rfl hb)]; exact (hc j hj).1
    · rw [World.cell?_of_block (w := w) (a := ⟨b, off + j * 2 + 1, none⟩) (hk ⟨b, off, none⟩ rfl hb)]; exact (hc j hj).2
theorem IsP.below {w w1 : World} {a : Option Addr} {ps : List (Int × Int)} (h : IsP w a ps) (hb : Below w.heap.size w w1) : IsP w1 a ps :=
  h.keptAt hb.size (fun _ _ hx => hb.block _ hx)
theorem IsP.drewN {w : World} {a : Option Addr} {ps : List (Int × Int)} (h : IsP w a ps) (n : Nat) : IsP (w.drewN n) a ps := h
def OwnP (w : World) (base : Nat) (v : Value) (ps : List (Int × Int)) : Prop := w.ownsRow base 83 2 v ps.length (pv ps)
theorem OwnP.isp {w : World} {base : Nat} {v : Value} {ps : List (Int × Int)} (h : OwnP w base v ps) : ∃ a cap, v = .slice a ps.length cap ∧ ps.length ≤ cap ∧ IsP w a ps := by
  have h' := h
  rcases h.2 with ⟨rfl, h0⟩ | ⟨g, cap, cur, rfl, hb, hh, hc, _⟩
  · obtain rfl := List.length_eq_zero_iff.1 h0
    exact ⟨none, 0, rfl, Nat.le_refl _, .inl rfl⟩
  · refine ⟨_, cap, rfl, hc, .inr ⟨g, 0, rfl, (Array.getElem?_eq_some_iff.1 hh).1, fun j hj => ?_⟩⟩
    have := pv_get ps j hj
    rw [Nat.zero_add]
    exact ⟨by rw [World.ownsRow.cellAt h' (j * 2) (by omega), this.1], by rw [World.ownsRow.cellAt h' (j * 2 + 1) (by omega), this.2]⟩
theorem OwnP.kept {w w1 : World} {base : Nat} {v : Value} {ps : List (Int × Int)} {row : Option Nat} (h : OwnP w base v ps) (hg : w.grownBy w1 row) (hne : v.ownBlock = none ∨ v.ownBlock ≠ row) : OwnP w1 base v ps := World.ownsRow.kept h hg hne
theorem OwnP.below {w w1 : World} {base : Nat} {v : Value} {ps : List (Int × Int)} (h : OwnP w base v ps) (hb : Below w.heap.size w w1) : OwnP w1 base v ps :=
  World.ownsRow.kept (row := none) h ⟨hb.os, hb.tape, hb.output, hb.size, fun k hk _ => hb.block k hk⟩ (by cases hv : v.ownBlock <;> simp)
theorem ownsRow_mono {w : World} {base base' s n : Nat} {t : TypeId} {v : Value} {xs : List Value} (h : w.ownsRow base t s v n xs) (hb : base' ≤ base) : w.ownsRow base' t s v n xs := by
  refine ⟨h.1, ?_⟩
  rcases h.2 with h | ⟨g, cap, cur, e, hb', r⟩
  · exact .inl h
  · exact .inr ⟨g, cap, cur, e, by omega, r⟩
theorem OwnP.mono {w : World} {base base' : Nat} {v : Value} {ps : List (Int × Int)} (h : OwnP w base v ps) (hb : base' ≤ base) : OwnP w base' v ps := ownsRow_mono h hb
theorem OwnP.ge {w : World} {base : Nat} {v : Value} {ps : List (Int × Int)} (h : OwnP w base v ps) : ∀ k, v.ownBlock = some k → base ≤ k ∧ k < w.heap.size := World.ownsRow.lt h
theorem OwnP.cell {w : World} {base g cap n : Nat} {ps : List (Int × Int)} (h : OwnP w base (.slice (some ⟨g, 0, none⟩) n cap) ps) (hn : ps.length = n) (j : Nat) (hj : j < ps.length) : w.cell? ⟨g, j * 2, none⟩ = some (.int .i64 ps[j].1) ∧ w.cell? ⟨g, j * 2 + 1, none⟩ = some (.int .i64 ps[j].2) := by
  subst hn
  have := pv_get ps j hj
  exact ⟨by rw [World.ownsRow.cellAt h (j * 2) (by omega), this.1], by rw [World.ownsRow.cellAt h (j * 2 + 1) (by omega), this.2]⟩
theorem OwnP.frozen {w : World} {base g cap n : Nat} {ps : List (Int × Int)} (h : OwnP w base (.slice (some ⟨g, 0, none⟩) n cap) ps) (hn : ps.length = n) (j : Nat) : w.frozen? ⟨g, j, none⟩ = false := by
  subst hn
  exact World.ownsRow.frozenAt h j
theorem OwnP.set {w : World} {base g cap n : Nat} {ps : List (Int × Int)} (h : OwnP w base (.slice (some ⟨g, 0, none⟩) n cap) ps) (hn : ps.length = n) (j : Nat) (x y : Int) :
    OwnP ((w.setCell ⟨g, j * 2, none⟩ (.int .i64 x)).setCell ⟨g, j * 2 + 1, none⟩ (.int .i64 y)) base (.slice (some ⟨g, 0, none⟩) n cap) (ps.set j (x, y)) := by
  subst hn
  have := (World.ownsRow.stored (World.ownsRow.stored h (j * 2) (.int .i64 x)).1 (j * 2 + 1) (.int .i64 y)).1
  rw [pv_set] at this
  unfold OwnP
  rwa [List.length_set]
theorem info_spl : (Tryz.prog.info? 83).map (fun i => (i.zero, i.size, i.bytes)) = some (some (.agg #[.int .i64 0, .int .i64 0]), 2, 16) := by kernel_rfl
theorem results_cell {fn : Func} {p : Tmp} {ty : TypeId} (h : fn.results = #[.cell p ty]) (tmps : Array Value) (P : Program) (w : World) :
    (results fn tmps).run P w = ((asAddr (tmps.getD p undef)).run P w).andThen fun a w₁ => (loadVar ty a).run P w₁ := by
  simp only [results, h]
  simp [Sem.run_bind, Result.andThen]
def LikeP {α : Type} (xs ys : List α) (k : Nat) : Prop := ∀ j, j < k → xs[j]? = ys[j]?
theorem likeP_set {α : Type} {xs ys : List α} {k : Nat} (h : LikeP ys xs k) (hk : k < xs.length) (hl : ys.length = xs.length) : LikeP (ys.set k xs[k]) xs (k + 1) := by
  intro j hj
  rw [List.getElem?_set]
  split
  · rename_i e
    subst e
    rw [if_pos (by omega), List.getElem?_eq_getElem hk]
  · exact h j (by omega)
theorem likeP_all {α : Type} {xs ys : List α} (h : LikeP ys xs xs.length) (hl : ys.length = xs.length) : ys = xs := by
  apply List.ext_getElem?
  intro j
  by_cases hj : j < xs.length
  · exact h j hj
  · rw [List.getElem?_eq_none (by omega), List.getElem?_eq_none (by omega)]
theorem below_drewN' (w : World) (n : Nat) : Below w.heap.size w (w.drewN n) := ⟨rfl, rfl, rfl, Nat.le_refl _, fun _ _ => rfl⟩

end Go.Proofs.YtglllflleabmbaaGreat.Tm
/-
  A tree as the laws hold it: a copy, a comparison, marks and whether they are held.
-/
namespace Go.Proofs.YtglllflleabmbaaGreat.Tm
open Go.RowKit
open Go.Proofs.YtglllflleabmbaaGreat.Li (ret_bool ret_int below_none)
open Go.Proofs.YtglllflleabmbaaGreat.Tb (sub sub_yes sub_no)

def Box2 (w : World) (b : Nat) (v0 v1 : Value) : Prop :=
  b < w.heap.size ∧ (w.cell? ⟨b, 0, none⟩ = some v0 ∧ w.cell? ⟨b, 1, none⟩ = some v1) ∧ w.frozen? ⟨b, 0, none⟩ = false ∧ w.frozen? ⟨b, 1, none⟩ = false
theorem Box2.keptAt {w w1 : World} {b : Nat} {v0 v1 : Value} (h : Box2 w b v0 v1) (hs : w.heap.size ≤ w1.heap.size) (hb : w1.heap[b]? = w.heap[b]?) : Box2 w1 b v0 v1 := by
  obtain ⟨hlt, ⟨c0, c1⟩, f0, f1⟩ := h
  refine ⟨by omega, ⟨?_, ?_⟩, ?_, ?_⟩
  · rw [World.cell?_of_block (w := w) (a := ⟨b, 0, none⟩) hb]; exact c0
  · rw [World.cell?_of_block (w := w) (a := ⟨b, 1, none⟩) hb]; exact c1
  · rw [World.frozen?_of_block (w := w) (a := ⟨b, 0, none⟩) hb]; exact f0
  · rw [World.frozen?_of_block (w := w) (a := ⟨b, 1, none⟩) hb]; exact f1
theorem Box2.below {w w1 : World} {b : Nat} {v0 v1 : Value} (h : Box2 w b v0 v1) (hB : Below w.heap.size w w1) : Box2 w1 b v0 v1 := h.keptAt hB.size (hB.block b h.1)
theorem Box2.setOther {w : World} {b g o : Nat} {v0 v1 v : Value} (h : Box2 w b v0 v1) (hne : ¬ b = g) : Box2 (w.setCell ⟨g, o, none⟩ v) b v0 v1 :=
  h.keptAt (by simp [World.setCell]) (Below.heap_setCell _ _ _ _ (fun e => hne (by simpa using e)))
theorem Box2.set0 {w : World} {b : Nat} {v0 v1 : Value} (h : Box2 w b v0 v1) (v : Value) : Box2 (w.setCell ⟨b, 0, none⟩ v) b v v1 := by
  obtain ⟨hlt, ⟨c0, c1⟩, f0, f1⟩ := h
  refine ⟨by simpa [World.setCell] using hlt, ⟨World.cell?_setCell_same _ _ _ c0, ?_⟩, ?_, ?_⟩
  · rw [World.cell?_setCell_other _ _ _ _ (by simp)]; exact c1
  all_goals (rw [World.frozen?_setCell]; assumption)
theorem Box2.set1 {w : World} {b : Nat} {v0 v1 : Value} (h : Box2 w b v0 v1) (v : Value) : Box2 (w.setCell ⟨b, 1, none⟩ v) b v0 v := by
  obtain ⟨hlt, ⟨c0, c1⟩, f0, f1⟩ := h
  refine ⟨by simpa [World.setCell] using hlt, ⟨?_, World.cell?_setCell_same _ _ _ c1⟩, ?_, ?_⟩
  · rw [World.cell?_setCell_other _ _ _ _ (by simp)]; exact c0
  all_goals (rw [World.frozen?_setCell]; assumption)
theorem box2_new (w : World) (v0 v1 : Value) (T : TypeId) : Box2 (w.alloc (.cells #[v0, v1] T)) w.heap.size v0 v1 :=
  ⟨by simp, ⟨by simp [World.cell?_alloc_new], by simp [World.cell?_alloc_new]⟩, by simp, by simp⟩
theorem Box2.alloc {w : World} {b : Nat} {v0 v1 : Value} (h : Box2 w b v0 v1) (o : Obj) : Box2 (w.alloc o) b v0 v1 := h.below ((Below.refl _ _).alloc (Nat.le_refl _) _)
theorem Box2.drewN {w : World} {b : Nat} {v0 v1 : Value} (h : Box2 w b v0 v1) (n : Nat) : Box2 (w.drewN n) b v0 v1 := h
theorem size_alloc (w : World) (o : Obj) : (w.alloc o).heap.size = w.heap.size + 1 := by simp
theorem boxes1 (w : World) (v0 v1 : Value) (T : TypeId) : ∃ W, w.alloc (.cells #[v0, v1] T) = W ∧ W.heap.size = w.heap.size + 1 ∧ Below w.heap.size w W ∧ Box2 W w.heap.size v0 v1 :=
  ⟨_, rfl, by simp, (Below.refl _ _).alloc (Nat.le_refl _) _, box2_new _ _ _ _⟩
theorem own_off {w w1 : World} {B b : Nat} {v : Value} {xs : List Int} (h : Li.Own w B v xs) (hg : w.grownBy w1 (some b)) (hb : b < B) : Li.Own w1 B v xs := by
  refine h.kept hg ?_
  cases e : v.ownBlock with
  | none => exact .inl rfl
  | some k => exact .inr (by have := (h.ge k e).1; simp; omega)
theorem ownP_off {w w1 : World} {B b : Nat} {v : Value} {xs : List (Int × Int)} (h : OwnP w B v xs) (hg : w.grownBy w1 (some b)) (hb : b < B) : OwnP w1 B v xs := by
  refine h.kept hg ?_
  cases e : v.ownBlock with
  | none => exact .inl rfl
  | some k => exact .inr (by have := (h.ge k e).1; simp; omega)
def Apt (u v : Value) : Prop := (v.ownBlock = none ∨ v.ownBlock ≠ u.ownBlock) ∧ (u.ownBlock = none ∨ u.ownBlock ≠ v.ownBlock)
theorem apt_of {u v : Value} (h : ∀ k, u.ownBlock = some k → v.ownBlock = some k → False) : Apt u v := by
  unfold Apt
  cases e : u.ownBlock with
  | none => exact ⟨by cases e' : v.ownBlock <;> simp, .inl rfl⟩
  | some k =>
    cases e' : v.ownBlock with
    | none => exact ⟨.inl rfl, by simp⟩
    | some k' => 
      have : ¬ k = k' := fun e2 => h k e (by rw [e', e2])
      exact ⟨.inr (by simp; omega), .inr (by simp; omega)⟩

structure Fr2 (w w1 : World) (r r' : Option Nat) : Prop where
  os : w1.os = w.os
  tape : w1.tape = w.tape
  output : w1.output = w.output
  size : w.heap.size ≤ w1.heap.size
  block : ∀ k, k < w.heap.size → ¬ some k = r → ¬ some k = r' → w1.heap[k]? = w.heap[k]?
theorem ownsRow_at {w w1 : World} {base : Nat} {e : TypeId} {size : Nat} {v : Value} {n : Nat} {xs : List Value} (h : w.ownsRow base e size v n xs) (hk : ∀ k, v.ownBlock = some k → w1.heap[k]? = w.heap[k]?) : w1.ownsRow base e size v n xs := by
  refine ⟨h.1, ?_⟩
  rcases h.2 with h | ⟨g, cap, cur, rfl, hb, hh, r⟩
  · exact .inl h
  · exact .inr ⟨g, cap, cur, rfl, hb, by rw [hk g rfl]; exact hh, r⟩
theorem Fr2.bel {w w1 : World} {B : Nat} {u v : Value} (h : Fr2 w w1 u.ownBlock v.ownBlock) (hu : ∀ k, u.ownBlock = some k → B ≤ k) (hv : ∀ k, v.ownBlock = some k → B ≤ k) (hB : B ≤ w.heap.size) : Below B w w1 :=
  ⟨h.os, h.tape, h.output, h.size, fun k hk => h.block k (by omega) (fun e => by have := hu k e.symm; omega) (fun e => by have := hv k e.symm; omega)⟩

def pmarks (k : Int) (n : Nat) : List (Int × Int) := (List.range n).map fun (j : Nat) => (k + 2 * (j : Int), k + 2 * (j : Int) + 1)
theorem pmarks_length (k : Int) (n : Nat) : (pmarks k n).length = n := by simp [pmarks]
theorem pmarks_get (k : Int) (n j : Nat) (h : j < (pmarks k n).length) : (pmarks k n)[j] = (k + 2 * (j : Int), k + 2 * (j : Int) + 1) := by simp [pmarks]
theorem below_drew (w : World) : Below w.heap.size w w.drew := ⟨rfl, rfl, rfl, Nat.le_refl _, fun _ _ => rfl⟩
end Go.Proofs.YtglllflleabmbaaGreat.Tm
/-
  Rows marked, and whether the marks are held; cells as the laws hold them.
-/
namespace Go.Proofs.YtglllflleabmbaaGreat.Sv
open Go.RowKit
open Go.Proofs.YtglllflleabmbaaGreat.Li (iv ret_bool ret_int below_none IsL marks marks_length marks_get)
open Go.Proofs.YtglllflleabmbaaGreat.Tb (sub sub_yes sub_no)
open Go.Proofs.YtglllflleabmbaaGreat.Se (R)
open Go.Proofs.YtglllflleabmbaaGreat.Tm (pv pv_length pv_get pv_set IsP LikeP likeP_set likeP_all pmarks pmarks_length pmarks_get)
set_option linter.unusedVariables false

theorem Wr.fr {w w1 : World} {B : Nat → Prop} {g off : Nat} {vs : List Value} (h : Wr w g off vs) (hf : Fr B w w1) (hn : ¬ B g) : Wr w1 g off vs := h.keptAt hf.size (hf.block g h.1 hn)
def OwC (w : World) (B : Nat → Prop) (v : Value) (ps : List (Int × Int)) : Prop := ∃ a cap, v = .slice a ps.length cap ∧ (ps = [] ∨ ∃ g off, a = some ⟨g, off, none⟩ ∧ B g ∧ Wr w g off (pv ps))
theorem wr_isp {w : World} {g off : Nat} {ps : List (Int × Int)} (h : Wr w g off (pv ps)) : IsP w (some ⟨g, off, none⟩) ps := by
  refine .inr ⟨g, off, rfl, h.1, fun j hj => ?_⟩
  have hp := pv_get ps j hj
  have hl := pv_length ps
  have h1 := (h.2 (j * 2) (by omega)).1
  have h2 := (h.2 (j * 2 + 1) (by omega)).1
  rw [List.getElem?_eq_getElem (by omega)] at hp
  rw [List.getElem?_eq_getElem (by omega)] at hp
  refine ⟨by rw [h1]; exact hp.1, ?_⟩
  rw [show off + j * 2 + 1 = off + (j * 2 + 1) by omega, h2]; exact hp.2
theorem OwC.isp {w : World} {B : Nat → Prop} {v : Value} {ps : List (Int × Int)} (h : OwC w B v ps) : ∃ a cap, v = .slice a ps.length cap ∧ IsP w a ps := by
  obtain ⟨a, cap, e, h⟩ := h
  refine ⟨a, cap, e, ?_⟩
  rcases h with h | ⟨g, off, rfl, _, hw⟩
  · exact .inl h
  · exact wr_isp hw
theorem OwC.fr {w w1 : World} {B B' : Nat → Prop} {v : Value} {xs : List (Int × Int)} (h : OwC w B v xs) (hf : Fr B' w w1) (hd : ∀ k, B k → ¬ B' k) : OwC w1 B v xs := by
  obtain ⟨a, cap, e, h⟩ := h
  refine ⟨a, cap, e, ?_⟩
  rcases h with h | ⟨g, off, ha, hb, hw⟩
  · exact .inl h
  · exact .inr ⟨g, off, ha, hb, hw.fr hf (hd g hb)⟩
theorem OwC.below {w w1 : World} {B : Nat → Prop} {v : Value} {xs : List (Int × Int)} (h : OwC w B v xs) (hb : Below w.heap.size w w1) : OwC w1 B v xs := h.fr (fr_below (B := fun _ => False) hb) (fun _ _ e => e)
theorem OwC.mono {w : World} {B B' : Nat → Prop} {v : Value} {xs : List (Int × Int)} (h : OwC w B v xs) (hb : ∀ k, B k → B' k) : OwC w B' v xs := by
  obtain ⟨a, cap, e, h⟩ := h
  refine ⟨a, cap, e, ?_⟩
  rcases h with h | ⟨g, off, ha, hg, hw⟩
  · exact .inl h
  · exact .inr ⟨g, off, ha, hb g hg, hw⟩
theorem wr_row {w : World} {base g n s cap : Nat} {t : TypeId} {vs : List Value} (h : w.ownsRow base t s (.slice (some ⟨g, 0, none⟩) n cap) n vs) : Wr w g 0 vs := by
  refine ⟨(World.ownsRow.lt h g rfl).2, fun j hj => ?_⟩
  rw [Nat.zero_add]
  exact ⟨by rw [World.ownsRow.cellAt h j (by have := h.1; omega), List.getElem?_eq_getElem hj], World.ownsRow.frozenAt h j⟩
theorem info_cell : (Tryz.prog.info? 154).map (fun i => (i.zero, i.size, i.bytes)) = some (some (.agg #[.int .i64 0, .int .i64 0]), 2, 16) := by kernel_rfl
theorem pv_made (n : Nat) : (madeCells (Value.agg #[.int .i64 0, .int .i64 0]).cells (n * 2)).toList = pv (Se.none0 n) := by
  apply List.ext_getElem?
  intro p
  by_cases hp : p < n * 2
  · have hz : (madeCells (Value.agg #[.int .i64 0, .int .i64 0]).cells (n * 2)).toList[p]? = some (.int .i64 0) := by
      have h2 : p % 2 < 2 := Nat.mod_lt _ (by decide)
      simp [madeCells, hp, Value.cells]
      rcases Nat.mod_two_eq_zero_or_one p with e | e <;> simp [e]
    rw [hz]
    have hg := pv_get (Se.none0 n) (p / 2) (by rw [Se.none0_length]; omega)
    rcases Nat.mod_two_eq_zero_or_one p with e | e
    · have := hg.1; rw [show p / 2 * 2 = p by omega] at this; rw [this]; simp [Se.none0]
    · have := hg.2; rw [show p / 2 * 2 + 1 = p by omega] at this; rw [this]; simp [Se.none0]
  · rw [List.getElem?_eq_none (by simp [madeCells]; omega), List.getElem?_eq_none (by rw [pv_length, Se.none0_length]; omega)]
theorem Wr.set2 {w : World} {g off : Nat} {ps : List (Int × Int)} (h : Wr w g off (pv ps)) (j : Nat) (hj : j < ps.length) (x y : Int) :
    Wr ((w.setCell ⟨g, off + j * 2, none⟩ (.int .i64 x)).setCell ⟨g, off + j * 2 + 1, none⟩ (.int .i64 y)) g off (pv (ps.set j (x, y))) := by
  have hl := pv_length ps
  have h1 := h.set (j * 2) (by omega) (.int .i64 x)
  have h2 := h1.set (j * 2 + 1) (by rw [List.length_set]; omega) (.int .i64 y)
  rw [pv_set] at h2
  rwa [show off + (j * 2 + 1) = off + j * 2 + 1 by omega] at h2
theorem Wr.at2 {w : World} {g off : Nat} {ps : List (Int × Int)} (h : Wr w g off (pv ps)) (j : Nat) (hj : j < ps.length) :
    (w.cell? ⟨g, off + j * 2, none⟩ = some (.int .i64 ps[j].1) ∧ w.cell? ⟨g, off + j * 2 + 1, none⟩ = some (.int .i64 ps[j].2)) ∧ w.frozen? ⟨g, off + j * 2, none⟩ = false ∧ w.frozen? ⟨g, off + j * 2 + 1, none⟩ = false := by
  have hl := pv_length ps
  rcases wr_isp h with h0 | ⟨b, o, e, _, hc⟩
  · subst h0; simp at hj
  · cases e
    refine ⟨hc j hj, (h.2 (j * 2) (by omega)).2, ?_⟩
    have := (h.2 (j * 2 + 1) (by omega)).2
    rwa [show off + (j * 2 + 1) = off + j * 2 + 1 by omega] at this
end Go.Proofs.YtglllflleabmbaaGreat.Sv
/-
  RowsOk of the program and of the model.
-/
namespace Go.Proofs.YtglllflleabmbaaGreat.Sw7
open Go.RowKit
open Go.Proofs.YtglllflleabmbaaGreat.Li (ret_bool ret_int below_none IsL btw)
open Go.Proofs.YtglllflleabmbaaGreat.Se Go.Proofs.YtglllflleabmbaaGreat.Sv
set_option linter.unusedVariables false

theorem below_box {w : World} {o : Obj} {n : Nat} : Below w.heap.size w ((w.alloc o).drewN n) := ((Below.refl _ _).alloc (Nat.le_refl _) _).trans ((Tm.below_drewN' _ _).mono (by simp))
theorem below_box1 {w : World} {o : Obj} : Below w.heap.size w (w.alloc o) := (Below.refl _ _).alloc (Nat.le_refl _) _
theorem rd_row {w : World} {a0 a1 a2 : Option Addr} {r : R} (h : Rd w a0 a1 a2 r) (h1 : r.g.length = r.x.length) (h2 : r.ids.length = r.x.length) (k : Nat) (hk : k < r.x.length) :
    ∃ xb xo gb go ib io a' c', a0 = some ⟨xb, xo, none⟩ ∧ a1 = some ⟨gb, go, none⟩ ∧ a2 = some ⟨ib, io, none⟩ ∧ (xb < w.heap.size ∧ gb < w.heap.size ∧ ib < w.heap.size) ∧
      w.cell? ⟨xb, xo + k, none⟩ = some (.slice a' (r.x.getD k []).length c') ∧ IsL w a' (r.x.getD k []) ∧ w.cell? ⟨gb, go + k, none⟩ = some (.int .i64 (r.g.getD k 0)) ∧ w.cell? ⟨ib, io + k, none⟩ = some (.int .i64 (r.ids.getD k 0)) := by
  obtain ⟨i0, i1, i2⟩ := h
  rcases i0 with e | ⟨xb, xo, rfl, hxb, hx⟩
  · rw [e] at hk; simp at hk
  rcases i1 with e | ⟨gb, go, rfl, hgb, hg⟩
  · rw [e] at h1; simp at h1; omega
  rcases i2 with e | ⟨ib, io, rfl, hib, hi⟩
  · rw [e] at h2; simp at h2; omega
  obtain ⟨a', c', hc, hl⟩ := hx k hk
  have e0 : r.x.getD k [] = r.x[k] := by simp [List.getD_eq_getElem?_getD, hk]
  have e1 : r.g.getD k 0 = r.g[k] := by simp [List.getD_eq_getElem?_getD, h1, hk]
  have e2 : r.ids.getD k 0 = r.ids[k] := by simp [List.getD_eq_getElem?_getD, h2, hk]
  rw [e0, e1, e2]
  exact ⟨xb, xo, gb, go, ib, io, a', c', rfl, rfl, rfl, ⟨hxb, hgb, hib⟩, hc, hl, hg k (by omega), hi k (by omega)⟩
theorem sbtwv (x lo hi : Int) (b : Bool) (h : btw x lo hi = b) (w : World) : Calls Tryz.prog 68 #[.int .i64 x, .int .i64 lo, .int .i64 hi] w fun e w' => e = .returned (.bool b) ∧ w' = w := by subst h; exact Li.between_any x lo hi w
abbrev rwk (L : Nat) (G I lv : Int) : Prop := L = 6 ∧ (-2000000 ≤ G ∧ G ≤ 2000000) ∧ (0 ≤ I ∧ I < lv)
end Go.Proofs.YtglllflleabmbaaGreat.Sw7
/-
  RowsOk of the model.
-/
namespace Go.Proofs.YtglllflleabmbaaGreat.Sw7
open Go.RowKit
open Go.Proofs.YtglllflleabmbaaGreat.Li (ret_bool ret_int below_none IsL btw)
open Go.Proofs.YtglllflleabmbaaGreat.Se Go.Proofs.YtglllflleabmbaaGreat.Sv
set_option linter.unusedVariables false

set_option maxHeartbeats 2000000 in
theorem srows (w : World) (a0 a1 a2 : Option Addr) (c0 c1 c2 : Nat) (r : R) (h : Rd w a0 a1 a2 r) :
    Calls Tryz.prog 120 #[.agg #[.slice a0 r.x.length c0, .slice a1 r.g.length c1, .slice a2 r.ids.length c2, .int .i64 r.lv, .int .i64 r.l2]] w fun e w' => e = .returned (.bool (rok r)) ∧ Below w.heap.size w w' := by
  by_cases hs : Se.shape r
  rotate_left
  · have HR : Hid (rok r = false) := rok_shape hs
    have HS : Hid (¬ Se.shape r) := hs
    clear hs
    obtain ⟨n, hn⟩ : ∃ n, r.x.length = n := ⟨_, rfl⟩
    obtain ⟨m, hm⟩ : ∃ n, r.g.length = n := ⟨_, rfl⟩
    obtain ⟨q, hq⟩ : ∃ n, r.ids.length = n := ⟨_, rfl⟩
    have HE : Hid (r.x.length = n ∧ r.g.length = m ∧ r.ids.length = q) := ⟨hn, hm, hq⟩
    rw [hn, hm, hq]
    clear hn hm hq
    cases hl : btw r.lv 1 16
    all_goals cases hl2 : btw r.l2 1 1000
    all_goals have HL : Hid (btw r.lv 1 16 = _ ∧ btw r.l2 1 1000 = _) := ⟨hl, hl2⟩
    all_goals
      go_enter Tryz.func120, Tryz.ntmps120
      go_wp2_with (first | (go_at_call_of 68 (16 : Int); refine (Li.between_any _ _ _ _).mono ?_; rintro e w' ⟨rfl, hw⟩; subst w'; rw [hl]) | (go_at_call 68; refine (Li.between_any _ _ _ _).mono ?_; rintro e w' ⟨rfl, hw⟩; subst w'; rw [hl2]))
    all_goals first
      | (go_ret; exact ⟨ret_bool HR.out.symm, below_box1⟩)
      | (exfalso; have h1 := HS.out; have h2 := HE.out; have h3 := HL.out; simp [btw] at h3; simp [Se.shape] at h1; omega)
  obtain ⟨s1, s2, s3, s4, s5⟩ := hs
  obtain ⟨i0, i1, i2⟩ := h
  have HS : Hid (Se.shape r) := ⟨s1, s2, s3, s4, s5⟩
  have HH : Hid (Rd w a0 a1 a2 r) := ⟨i0, i1, i2⟩
  rw [s2, s3]
  obtain ⟨n, hn⟩ : ∃ n, r.x.length = n := ⟨_, rfl⟩
  have HE : Hid (r.x.length = n) := hn
  rw [hn] at s1 ⊢
  obtain ⟨lv, hlv⟩ : ∃ x, r.lv = x := ⟨_, rfl⟩
  have HV : Hid (r.lv = lv) := hlv
  rw [hlv] at s4 ⊢
  have hl : btw lv 1 16 = true := by simp only [btw, decide_eq_true_iff]; exact s4
  have hl2 : btw r.l2 1 1000 = true := by simp only [btw, decide_eq_true_iff]; exact s5
  have hne : ((n : Int) != (n : Int)) = false := by simp
  clear hn s2 s3 i0 i1 i2 hlv
  go_enter Tryz.func120, Tryz.ntmps120
  go_wp2_with (first | (go_at_call_of 68 (16 : Int); refine (Li.between_any _ _ _ _).mono ?_; rintro e w' ⟨rfl, hw⟩; subst w'; rw [hl]) | (go_at_call 68; refine (Li.between_any _ _ _ _).mono ?_; rintro e w' ⟨rfl, hw⟩; subst w'; rw [hl2]))
  obtain ⟨W, hW, hsz, hB, bx⟩ := new1 w [.slice a0 n c0, .slice a1 n c1, .slice a2 n c2, .int .i64 lv, .int .i64 r.l2] 127
  rw [hW]
  have HX : Hid (Wr W w.heap.size 0 [.slice a0 n c0, .slice a1 n c1, .slice a2 n c2, .int .i64 lv, .int .i64 r.l2]) := bx
  have HBW : Hid (Below w.heap.size w W) := hB
  clear hW hsz hl hl2 hB bx
  go_loopw [3] (fun i wr => ∃ k : Nat, k ≤ n ∧ i = .int .i64 k ∧ (∀ j, j < k → rowok r j) ∧ ∃ z, wr = W.drewN z) (fun i _ => n - (intOf i).toNat)
  case atStart => exact ⟨0, Nat.zero_le _, rfl, fun j hj => by omega, 0, rfl⟩
  case round =>
    obtain ⟨k, hk, rfl, hn, z, hz⟩ := hrel
    have HN : Hid (∀ j, j < k → rowok r j) := hn
    have HZ : Hid (wr = W.drewN z) := hz
    have hbr : Below W.heap.size W wr := by rw [hz]; exact Tm.below_drewN' _ _
    obtain ⟨_, ⟨x0, x1, x2, x3, x4⟩, _⟩ := wr5 (HX.out.below hbr)
    have HBR : Hid (Below w.heap.size w wr) := HBW.out.trans (hbr.mono HBW.out.size)
    clear hn hz
    by_cases hlt : k < n
    · obtain ⟨xb, xo, gb, go, ib, io, a', c', rfl, rfl, rfl, ⟨hb0, hb1, hb2⟩, hx, _, hg, hi⟩ := rd_row (HH.out.below HBR.out) HS.out.2.1 HS.out.2.2.1 k (by rw [HE.out]; exact hlt)
      have HK : Hid (rowok r k ↔ rwk (r.x.getD k []).length (r.g.getD k 0) (r.ids.getD k 0) r.lv) := Iff.rfl
      rw [HV.out] at HK
      obtain ⟨L, hL⟩ : ∃ L, (r.x.getD k []).length = L := ⟨_, rfl⟩
      obtain ⟨G, hG⟩ : ∃ G, r.g.getD k 0 = G := ⟨_, rfl⟩
      obtain ⟨I, hI⟩ : ∃ I, r.ids.getD k 0 = I := ⟨_, rfl⟩
      rw [hL] at hx HK
      rw [hG] at hg HK
      rw [hI] at hi HK
      clear hL hG hI hbr
      have hlt' : (k : Int) < n := by omega
      obtain ⟨p, hp⟩ : ∃ p, lv - 1 = p := ⟨_, rfl⟩
      have HP : Hid (lv - 1 = p) := hp
      have hpw : IntKind.i64.wrap (lv - 1) = p := by rw [hp]; simp [IntKind.wrap, IntKind.bits, IntKind.signed]; omega
      have hpv : wrap64 (lv - 1) = p := by unfold wrap64; omega
      by_cases h6 : L = 6
      rotate_left
      · have e6 : ((L : Int) != 6) = true := by simp; omega
        have HR : Hid (rok r = false) := rok_row (by rw [HE.out]; exact hlt) (fun h => h6 (HK.out.1 h).1)
        go_wp2
        go_quiet (fail)
        go_wp2
        go_ret
        exact ⟨ret_bool HR.out.symm, HBR.out.trans ((Tm.below_drewN' _ _).mono HBR.out.size)⟩
      have e6 : ((L : Int) != 6) = false := by simp; omega
      cases hgr : btw G (-2000000) 2000000 with
      | false =>
        have HR : Hid (rok r = false) := rok_row (by rw [HE.out]; exact hlt) (fun h => by have := (HK.out.1 h).2.1; simp only [btw, decide_eq_false_iff_not] at hgr; omega)
        go_wp2
        go_quiet (first | (go_at_call 68; refine Calls.quiet_of_same (sbtwv _ (-2000000) 2000000 false hgr _)))
        go_wp2
        go_ret
        exact ⟨ret_bool HR.out.symm, HBR.out.trans ((Tm.below_drewN' _ _).mono HBR.out.size)⟩
      | true =>
        cases hid : btw I 0 p with
        | false =>
          have HR : Hid (rok r = false) := rok_row (by rw [HE.out]; exact hlt) (fun h => by have := (HK.out.1 h).2.2; simp only [btw, decide_eq_false_iff_not] at hid; have := HP.out; omega)
          go_wp2
          go_quiet (first | (go_at_call_of 68 G; refine Calls.quiet_of_same (sbtwv _ (-2000000) 2000000 true hgr _)) | (go_at_call_of 68 I; refine Calls.quiet_of_same (sbtwv I 0 p false hid _)))
          go_wp2
          go_ret
          exact ⟨ret_bool HR.out.symm, HBR.out.trans ((Tm.below_drewN' _ _).mono HBR.out.size)⟩
        | true =>
          have HR : Hid (∀ j, j < k + 1 → rowok r j) := fun j hj => by
            by_cases e : j = k
            · subst e; simp only [btw, decide_eq_true_iff] at hid hgr; have := HP.out; exact HK.out.2 ⟨h6, hgr, by omega, by omega⟩
            · exact HN.out j (by omega)
          go_wp2
          go_quiet (first | (go_at_call_of 68 G; refine Calls.quiet_of_same (sbtwv _ (-2000000) 2000000 true hgr _)) | (go_at_call_of 68 I; refine Calls.quiet_of_same (sbtwv I 0 p true hid _)))
          go_wp2
          go_roundw
          case rel => exact ⟨k + 1, by omega, by go_num, HR.out, _, by rw [HZ.out, World.drewN_drewN]⟩
          case measure => simp [intOf]; omega
    · have HR : Hid (rok r = true) := rok_all HS.out (fun j hj => HN.out j (by rw [HE.out] at hj; omega))
      go_wp2
      go_ret
      exact ⟨ret_bool HR.out.symm, HBR.out⟩
end Go.Proofs.YtglllflleabmbaaGreat.Sw7
/-
  ScoreOf of the program and of the model.
-/
namespace Go.Proofs.YtglllflleabmbaaGreat.Sw7
open Go.RowKit
open Go.Proofs.YtglllflleabmbaaGreat.Li (ret_bool ret_int below_none IsL btw)
open Go.Proofs.YtglllflleabmbaaGreat.Tm (IsP)
open Go.Proofs.YtglllflleabmbaaGreat.Se Go.Proofs.YtglllflleabmbaaGreat.Sv
set_option linter.unusedVariables false

set_option maxHeartbeats 2000000 in
theorem sscore (w : World) (a : Option Addr) (cap : Nat) (ps : List (Int × Int)) (l2 : Int) (h : IsP w a ps) (hl : ps.length ≤ 1048576) :
    Calls Tryz.prog 123 #[.slice a ps.length cap, .int .i64 l2] w fun e w' => e = .returned (.int .i64 (score ps l2)) ∧ Below w.heap.size w w' := by
  by_cases h16 : ps.length ≤ 16
  rotate_left
  · have HR : Hid (score ps l2 = 0) := score_no (scok_head (fun h => h16 h.1))
    have hd : decide (16 < (ps.length : Int)) = true := by simp; omega
    go_enter Tryz.func123, Tryz.ntmps123
    go_wp2_with fail
    go_ret
    exact ⟨ret_int HR.out.symm, Below.refl _ _⟩
  have hd : decide (16 < (ps.length : Int)) = false := by simp; omega
  cases hv : btw l2 1 1000 with
  | false =>
    have HR : Hid (score ps l2 = 0) := score_no (scok_head (fun h => by simp only [btw, decide_eq_false_iff_not] at hv; exact hv h.2))
    go_enter Tryz.func123, Tryz.ntmps123
    go_wp2_with (go_at_call 68; refine (Li.between_any _ _ _ _).mono ?_; rintro e w' ⟨rfl, hw⟩; subst w'; rw [hv])
    go_ret
    exact ⟨ret_int HR.out.symm, Below.refl _ _⟩
  | true =>
    have h2 : 1 ≤ l2 ∧ l2 ≤ 1000 := by simp only [btw, decide_eq_true_iff] at hv; exact hv
    go_enter Tryz.func123, Tryz.ntmps123
    go_wp2_with (go_at_call 68; refine (Li.between_any _ _ _ _).mono ?_; rintro e w' ⟨rfl, hw⟩; subst w'; rw [hv])
    clear hv
    go_loopw [5, 6] (fun q i wr => ∃ k : Nat, k ≤ ps.length ∧ i = .int .i64 k ∧ q = .int .i64 (ssum l2 (ps.take k)) ∧ (∀ j (hj : j < ps.length), j < k → cok ps[j]) ∧ ∃ z, wr = w.drewN z) (fun _ i _ => ps.length - (intOf i).toNat)
    case atStart => exact ⟨0, Nat.zero_le _, rfl, by simp [ssum], fun j hj h => by omega, 0, rfl⟩
    case round =>
      obtain ⟨k, hk, rfl, rfl, hn, z, hz⟩ := hrel
      have HN : Hid (∀ j (hj : j < ps.length), j < k → cok ps[j]) := hn
      have HZ : Hid (wr = w.drewN z) := hz
      have hBr : Below w.heap.size w wr := by rw [hz]; exact Tm.below_drewN' _ _
      clear hn hz
      by_cases hlt : k < ps.length
      · rcases h.below hBr with h0 | ⟨b, off, rfl, hb, hc⟩
        · rw [h0] at hlt; simp at hlt
        obtain ⟨c0, c1⟩ := hc k hlt
        have HT : Hid (ssum l2 (ps.take (k + 1)) = ssum l2 (ps.take k) + one ps[k] l2) := ssum_take ps l2 k hlt
        obtain ⟨r0, r1⟩ := ssum_range ps l2 h2 k hk (fun j hj hjk => HN.out j hj hjk)
        obtain ⟨Z, hZ⟩ : ∃ Z, ssum l2 (ps.take k) = Z := ⟨_, rfl⟩
        rw [hZ] at r0 r1 HT ⊢
        have hz : Z ≤ 102400000000000000 := by omega
        have HCK : Hid (cok ps[k] ↔ btw ps[k].1 0 40 = true ∧ btw ps[k].2 (-80000000) 80000000 = true) := by show _ ↔ _; simp [cok, btw]
        have HBAD : Hid (¬ cok ps[k] → score ps l2 = 0) := fun hb => score_no (scok_bad hlt hb)
        have HGO : Hid (cok ps[k] → (0 ≤ one ps[k] l2 ∧ one ps[k] l2 ≤ 6400000000000000) ∧ (0 ≤ ps[k].2 * ps[k].2 ∧ ps[k].2 * ps[k].2 ≤ 6400000000000000)) := fun hc => ⟨one_range hc h2, sq_range hc⟩
        unfold one at HGO HT
        obtain ⟨N, hN⟩ : ∃ N, ps[k].1 = N := ⟨_, rfl⟩
        obtain ⟨G, hG⟩ : ∃ G, ps[k].2 = G := ⟨_, rfl⟩
        rw [hN] at c0 HT HGO HCK
        rw [hG] at c1 HT HGO HCK
        clear hc hZ hN hG r1
        cases hv1 : btw N 0 40 with
        | false =>
          have HR : Hid (score ps l2 = 0) := HBAD.out (fun h => by have := (HCK.out.1 h).1; rw [hv1] at this; cases this)
          go_wp2_with (go_at_call_of 68 N; refine (Li.between_any _ _ _ _).mono ?_; rintro e w' ⟨rfl, hw⟩; subst w'; rw [hv1])
          go_ret
          exact ⟨ret_int HR.out.symm, hBr⟩
        | true =>
          cases hv2 : btw G (-80000000) 80000000 with
          | false =>
            have HR : Hid (score ps l2 = 0) := HBAD.out (fun h => by have := (HCK.out.1 h).2; rw [hv2] at this; cases this)
            go_wp2_with (first | (go_at_call_of 68 N; refine (Li.between_any _ _ _ _).mono ?_; rintro e w' ⟨rfl, hw⟩; subst w'; rw [hv1]) | (go_at_call_of 68 G; refine (Li.between_any _ _ _ _).mono ?_; rintro e w' ⟨rfl, hw⟩; subst w'; rw [hv2]))
            go_ret
            exact ⟨ret_int HR.out.symm, hBr⟩
          | true =>
            have hck := HCK.out.2 ⟨hv1, hv2⟩
            obtain ⟨⟨q0, q1⟩, s0, s1⟩ := HGO.out hck
            have HR : Hid (∀ j (hj : j < ps.length), j < k + 1 → cok ps[j]) := fun j hj h => by
              by_cases e : j = k
              · subst e; exact hck
              · exact HN.out j hj (by omega)
            have hN := hv1
            have hG := hv2
            simp only [btw, decide_eq_true_iff] at hN hG
            have hne : ¬ N + l2 = 0 := by omega
            have hnb : (N + l2 == 0) = false := by simp; omega
            clear hck
            go_wp2_with (first | (go_at_call_of 68 N; refine (Li.between_any _ _ _ _).mono ?_; rintro e w' ⟨rfl, hw⟩; subst w'; rw [hv1]) | (go_at_call_of 68 G; refine (Li.between_any _ _ _ _).mono ?_; rintro e w' ⟨rfl, hw⟩; subst w'; rw [hv2]))
            go_quiet (fail)
            go_wp2
            go_roundw
            case rel => exact ⟨k + 1, by omega, by go_num, by rw [HT.out], HR.out, _, by rw [HZ.out, World.drewN_drewN]⟩
            case measure => simp [intOf]; omega
      · obtain rfl : k = ps.length := by omega
        have ht : ps.take ps.length = ps := List.take_length
        have HR : Hid (score ps l2 = ssum l2 ps) := score_ok (scok_all h16 h2 (fun j hj => HN.out j hj hj))
        rw [ht]
        go_wp2
        go_ret
        exact ⟨ret_int HR.out.symm, hBr⟩
end Go.Proofs.YtglllflleabmbaaGreat.Sw7
/-
  A table of sixteen cells: one more row in its cell (the program's add); its score.
-/
namespace Go.Proofs.YtglllflleabmbaaGreat.Sw7
open Go.RowKit
open Go.Proofs.YtglllflleabmbaaGreat.Li (ret_bool ret_int below_none IsL btw)
open Go.Proofs.YtglllflleabmbaaGreat.Tm (IsP pv pv_length)
open Go.Proofs.YtglllflleabmbaaGreat.Se Go.Proofs.YtglllflleabmbaaGreat.Sv
set_option linter.unusedVariables false

end Go.Proofs.YtglllflleabmbaaGreat.Sw7
/-
  append: a number put behind a list of the call's own; a list that has just been made empty; frames.
-/
namespace Go.Proofs.YtglllflleabmbaaGreat.Ai
open Go.RowKit
open Go.Proofs.YtglllflleabmbaaGreat.Li
theorem one_cell (w : World) (T : TypeId) (x : Int) : ∀ j u, ([Value.int .i64 x] : List Value)[j]? = some u → (w.alloc (.cells #[.int .i64 x] T)).cell? ((⟨w.heap.size, 0, none⟩ : Addr).add j) = some u := by
  intro j u hj
  match j, hj with
  | 0, hj => simp at hj; subst hj; simp [Addr.add]
theorem one_at {w : World} {T : TypeId} {x : Int} {H : Nat} (h : w.heap.size = H) : ∀ j u, ([Value.int .i64 x] : List Value)[j]? = some u → (w.alloc (.cells #[.int .i64 x] T)).cell? ((⟨H, 0, none⟩ : Addr).add j) = some u := by
  subst h; exact one_cell _ _ _
theorem one_one (x : Int) : ∀ u ∈ ([Value.int .i64 x] : List Value), u.oneCell' = true := by
  intro u hu; simp at hu; subst hu; rfl
theorem own_snoc {w : World} {base n : Nat} {v : Value} {l : List Int} {x : Int} (hn : l.length = n) (h : w.ownsRow base 3 1 v (n + 1) (iv l ++ [.int .i64 x])) : Own w base v (l ++ [x]) := by
  subst hn
  unfold Own
  rw [← iv_append, List.length_append]
  exact h
theorem own_empty (w : World) (base : Nat) (hb : base ≤ w.heap.size) : Own (w.alloc (.cells #[] 3)) base (.slice (some ⟨w.heap.size, 0, none⟩) 0 0) [] :=
  World.ownsRow_made w #[] 0 hb (by unfold maxLen; omega) (by simp)
theorem news_i {w : World} {ad : Addr} {xs : List Int} (h : IsL w (some ad) xs) : ∀ j u, (iv xs)[j]? = some u → w.cell? (ad.add j) = some u := by
  intro j u hj
  rcases h with rfl | ⟨b, off, e, _, hc⟩
  · simp [iv] at hj
  · cases e
    have hlt : j < xs.length := by
      apply Classical.byContradiction
      intro hn
      rw [List.getElem?_eq_none (by rw [iv_length]; omega)] at hj
      cases hj
    rw [iv_get xs j hlt] at hj
    rw [Go.WideShapes.add_plain, hc j hlt, hj]
theorem below_app {w wr w1 : World} {B : Nat} {r : Option Nat} (hB : Below B w wr) (hs : B ≤ wr.heap.size) (hg : wr.grownBy w1 r) (hr : ∀ k, r = some k → B ≤ k) : Below B w w1 :=
  hB.trans ⟨hg.os, hg.tape, hg.output, hg.size, fun k hk => hg.block k (by omega) (fun e => by have := hr k e.symm; omega)⟩
theorem grown_undrew {w w1 : World} {r : Option Nat} (h : w.drew.grownBy w1 r) : w.grownBy w1 r := ⟨h.os, h.tape, h.output, h.size, h.block⟩
theorem grown_of_below {w w1 w2 : World} {b : Nat} (h : w.grownBy w1 (some b)) (hB : Below w1.heap.size w1 w2) : w.grownBy w2 (some b) :=
  ⟨hB.os.trans h.os, hB.tape.trans h.tape, hB.output.trans h.output, Nat.le_trans h.size hB.size, fun k hk hr => (hB.block k (Nat.lt_of_lt_of_le hk h.size)).trans (h.block k hk hr)⟩
theorem own_cur {w w1 : World} {b B : Nat} {v : Value} {xs : List Int} (h : Own w B v xs) (hg : w.grownBy w1 (some b)) (hb : b < B) : Own w1 B v xs := by
  refine h.kept hg ?_
  cases e : v.ownBlock with
  | none => exact .inl rfl
  | some k => exact .inr (by have := (h.ge k e).1; simp; omega)
theorem grown_new {w w1 w2 : World} {b : Nat} {r : Option Nat} (h : w.grownBy w1 (some b)) (h' : w1.grownBy w2 r) (hr : ∀ k, r = some k → w.heap.size ≤ k) : w.grownBy w2 (some b) :=
  ⟨h'.os.trans h.os, h'.tape.trans h.tape, h'.output.trans h.output, Nat.le_trans h.size h'.size, fun k hk hne => (h'.block k (Nat.lt_of_lt_of_le hk h.size) (fun e => by have := hr k e.symm; omega)).trans (h.block k hk hne)⟩
end Go.Proofs.YtglllflleabmbaaGreat.Ai
/-
  CellsOf of the program and of the model.
-/
namespace Go.Proofs.YtglllflleabmbaaGreat.Sw7
open Go.RowKit
open Go.Proofs.YtglllflleabmbaaGreat.Li (ret_bool ret_int below_none IsL btw)
open Go.Proofs.YtglllflleabmbaaGreat.Tm (IsP pv pv_length)
open Go.Proofs.YtglllflleabmbaaGreat.Se Go.Proofs.YtglllflleabmbaaGreat.Sv
set_option linter.unusedVariables false

theorem pv_one (ps : List (Int × Int)) : ∀ u ∈ pv ps, u.oneCell' = true := by
  induction ps with
  | nil => intro u hu; simp [pv] at hu
  | cons p ps ih =>
    intro u hu
    simp only [pv, List.mem_cons] at hu
    rcases hu with rfl | rfl | hu
    · rfl
    · rfl
    · exact ih u hu
theorem news_p {w : World} {b off : Nat} {ps : List (Int × Int)} (h : Wr w b off (pv ps)) : ∀ j u, (pv ps)[j]? = some u → w.cell? ((⟨b, off, none⟩ : Addr).add j) = some u := by
  intro j u hj
  rw [Go.WideShapes.add_plain]
  obtain ⟨hlt, e⟩ := List.getElem?_eq_some_iff.1 hj
  rw [(h.2 j hlt).1, e]
theorem eql_nil {P : Program} (w : World) (t e : TypeId) (a : Addr) (l c : Nat) (h : P.underlying t = some (.slice e)) : (binOp .eql t (.slice (some a) l c) (.slice none 0 0)).run P w = .ok (.bool false) w := by
  simp only [binOp]
  simp [run_equal_slice_nil w t e (some a) l c h]
end Go.Proofs.YtglllflleabmbaaGreat.Sw7
/-
  CellsOf of the model.
-/
namespace Go.Proofs.YtglllflleabmbaaGreat.Sw7
set_option maxRecDepth 100000
open Go.RowKit
open Go.Proofs.YtglllflleabmbaaGreat.Li (ret_bool ret_int below_none IsL btw)
open Go.Proofs.YtglllflleabmbaaGreat.Tm (IsP pv pv_length)
open Go.Proofs.YtglllflleabmbaaGreat.Se Go.Proofs.YtglllflleabmbaaGreat.Sv
set_option linter.unusedVariables false

theorem bump_set (cs : List (Int × Int)) (j : Nat) (g : Int) (hj : j < cs.length) : bump cs (j : Int) g = cs.set j (cs[j].1 + 1, cs[j].2 + g) := by
  unfold bump
  rw [Int.toNat_natCast]
  simp [List.getD_eq_getElem?_getD, hj]
set_option maxHeartbeats 4000000 in
theorem scellsof (w : World) (a0 a1 a2 : Option Addr) (c0 c1 c2 : Nat) (r : R) (h : Rd w a0 a1 a2 r) :
    Calls Tryz.prog 124 #[.agg #[.slice a0 r.x.length c0, .slice a1 r.g.length c1, .slice a2 r.ids.length c2, .int .i64 r.lv, .int .i64 r.l2]] w fun e w' => ∃ v, e = .returned v ∧ OwC w' (fun k => w.heap.size ≤ k ∧ k < w'.heap.size) v (cells r) ∧ Below w.heap.size w w' := by
  obtain ⟨i0, hi, hz0, hz1, hz2⟩ := info_parts info_cell
  go_enter Tryz.func124, Tryz.ntmps124
  go_wp2_with fail
  obtain ⟨W, hW, hsz, hB, bx⟩ := new1 w [.slice a0 r.x.length c0, .slice a1 r.g.length c1, .slice a2 r.ids.length c2, .int .i64 r.lv, .int .i64 r.l2] 127
  rw [hW]
  clear hW hsz
  refine (srows _ _ _ _ _ _ _ r (h.below hB)).mono ?_
  rintro e w1 ⟨rfl, hb⟩
  have bx := bx.below hb
  have hB := hB.trans (hb.mono hB.size)
  clear hb
  have h := h.below hB
  cases hv : rok r with
  | false =>
    have HR : Hid (cells r = []) := cells_no hv
    go_wp2
    go_ret
    refine ⟨_, rfl, ?_, hB.alloc hB.size _⟩
    rw [HR.out]
    exact ⟨_, _, rfl, .inl rfl⟩
  | true =>
    have HK : Hid (ROk r) := rok_iff.1 hv
    have HV : Hid (rok r = true) := hv
    obtain ⟨⟨s1, s2, s3, s4, s5⟩, hrow⟩ := rok_iff.1 hv
    clear hv hrow
    obtain ⟨q, hq⟩ : ∃ q : Nat, r.lv = (q : Int) := ⟨r.lv.toNat, by omega⟩
    have HQ : Hid (r.lv.toNat = q) := by show _ = _; omega
    rw [hq] at bx s4 ⊢
    have hq16 : q ≤ 16 := by omega
    have hq0 : 0 < q := by omega
    have HQE : Hid (r.lv = (q : Int)) := hq
    clear hq
    obtain ⟨_, ⟨x0, x1, x2, x3, x4⟩, _⟩ := wr5 bx
    have hws := hB.size
    go_wp2_with (at_make; refine wpList_make_full _ rfl _ _ 146 rfl w1.heap.size 154 i0 (.agg #[.int .i64 0, .int .i64 0]) 2 Tryz.underlying146 hi hz0 hz1 _ _ _ _ q rfl rfl (by omega) (by omega) (by rw [hz2]; omega) (by unfold maxLen; omega) (Nat.le_refl _) ?_; intro w2 hown hgrow)
    rw [pv_made] at hown
    have bt := wr_row hown
    have hb2 := below_none hgrow
    clear hown hgrow x0 x1 x2 x3 x4
    go_loopw [4] (fun i wr => ∃ k : Nat, k ≤ r.ids.length ∧ i = .int .i64 k ∧ Wr wr w1.heap.size 0 (pv (tally r.ids r.g (none0 q) k)) ∧ Below w1.heap.size w1 wr) (fun i _ => r.ids.length - (intOf i).toNat)
    case atStart => exact ⟨0, Nat.zero_le _, rfl, bt, hb2⟩
    case round =>
      obtain ⟨k, hk, rfl, ht, hb⟩ := hrel
      have hBr := hB.trans (hb.mono hB.size)
      have HT : Hid (Wr wr w1.heap.size 0 (pv (tally r.ids r.g (none0 q) k))) := ht
      obtain ⟨hbx, ⟨x0, x1, x2, x3, x4⟩, _⟩ := wr5 (bx.below hb)
      by_cases hlt : k < r.ids.length
      · obtain ⟨xb, xo, gb, go, ib, io, a', c', rfl, rfl, rfl, ⟨hl0, hl1, hl2⟩, _, _, hg, hi⟩ := rd_row (h.below hb) s2 s3 k (by omega)
        have hrw := HK.out.2 k (by omega)
        obtain ⟨_, hgr, hid⟩ := hrw
        rw [HQE.out] at hid
        obtain ⟨j, hj⟩ : ∃ j : Nat, r.ids.getD k 0 = (j : Int) := ⟨(r.ids.getD k 0).toNat, by omega⟩
        rw [hj] at hi hid
        have hjl : j < (tally r.ids r.g (none0 q) k).length := by rw [tally_length, none0_length]; omega
        have HS : Hid (tally r.ids r.g (none0 q) (k + 1) = (tally r.ids r.g (none0 q) k).set j ((tally r.ids r.g (none0 q) k)[j].1 + 1, (tally r.ids r.g (none0 q) k)[j].2 + r.g.getD k 0)) := by
          show tally _ _ _ (k + 1) = _
          rw [← bump_set _ _ _ hjl, ← hj]; rfl
        have hck := tally_cok r.ids r.g q k (by omega) (fun i hi' => (HK.out.2 i (by omega)).2.1) j hjl
        obtain ⟨⟨t0, t1⟩, f0, f1⟩ := ht.at2 j hjl
        obtain ⟨T, hTT⟩ : ∃ T, tally r.ids r.g (none0 q) k = T := ⟨_, rfl⟩
        have hlt' : k < r.g.length := by omega
        obtain ⟨G, hG⟩ : ∃ G, r.g.getD k 0 = G := ⟨_, rfl⟩
        have HN2 : Hid (∀ N M : Int, Wr ((wr.setCell ⟨w1.heap.size, j * 2, none⟩ (.int .i64 N)).setCell ⟨w1.heap.size, j * 2 + 1, none⟩ (.int .i64 M)) w1.heap.size 0 (pv ((tally r.ids r.g (none0 q) k).set j (N, M)))) := fun N M => by have := ht.set2 j hjl N M; rw [Nat.zero_add] at this; exact this
        obtain ⟨N, hN⟩ : ∃ N, (tally r.ids r.g (none0 q) k)[j].1 = N := ⟨_, rfl⟩
        obtain ⟨M, hM⟩ : ∃ N, (tally r.ids r.g (none0 q) k)[j].2 = N := ⟨_, rfl⟩
        rw [hG] at hg hgr HS
        rw [hN, hM] at HS
        simp only [cok] at hck
        rw [hN, hM] at hck
        rw [hN] at t0
        rw [hM] at t1
        rw [Nat.zero_add] at t0 t1 f0 f1
        obtain ⟨⟨n0, n1⟩, g0, g1⟩ := hck
        have hltb : w1.heap.size < wr.heap.size := ht.1
        have ne0 : ¬ w.heap.size = w1.heap.size := by have := bx.1; omega
        have hjq : (j : Int) < q := by omega
        have hne1 : ¬ ib = w1.heap.size := by
          intro e
          rcases h.2.2 with h0 | ⟨b', o', e', hb', _⟩
          · rw [h0] at hlt; simp at hlt
          · cases e'; omega
        have hne2 : ¬ gb = w1.heap.size := by
          intro e
          rcases h.2.1 with h0 | ⟨b', o', e', hb', _⟩
          · rw [h0] at hlt'; simp at hlt'
          · cases e'; omega
        have hlti : (k : Int) < (r.ids.length : Int) := by omega
        have hltg : (k : Int) < (r.g.length : Int) := by omega
        clear hj hG hTT hN hM hjl ht
        go_wp2
        go_region
        go_wp2
        go_roundw
        case rel =>
          refine ⟨k + 1, by omega, by go_num, ?_, ?_⟩
          · rw [HS.out]; exact HN2.out _ _
          · exact ((hb.setCell (p := ⟨w1.heap.size, j * 2, none⟩) (Nat.le_refl _) _).setCell (p := ⟨w1.heap.size, j * 2 + 1, none⟩) (Nat.le_refl _) _).drew
        case measure => simp [intOf]; omega
      · obtain rfl : k = r.ids.length := by omega
        have HO : Hid (OwC wr (fun k => w.heap.size ≤ k ∧ k < wr.heap.size) (.slice (some ⟨w1.heap.size, 0, none⟩) q q) (cells r)) := by
          refine ⟨some ⟨w1.heap.size, 0, none⟩, q, ?_, .inr ⟨w1.heap.size, 0, rfl, ⟨by omega, HT.out.1⟩, ?_⟩⟩
          · rw [cells_ok HV.out, tally_length, none0_length, HQ.out]
          · rw [cells_ok HV.out, HQ.out]; exact HT.out
        clear ht HT
        go_wp2
        go_ret
        exact ⟨_, rfl, HO.out, hBr⟩
end Go.Proofs.YtglllflleabmbaaGreat.Sw7
/-
  What can be asked, and where a row goes that is asked (the program's).
-/
namespace Go.Proofs.YtglllflleabmbaaGreat.Sw7
set_option maxRecDepth 100000
open Go.RowKit
open Go.Proofs.YtglllflleabmbaaGreat.Li (ret_bool ret_int below_none IsL btw)
open Go.Proofs.YtglllflleabmbaaGreat.Tm (IsP pv pv_length)
open Go.Proofs.YtglllflleabmbaaGreat.Se Go.Proofs.YtglllflleabmbaaGreat.Sv
set_option linter.unusedVariables false

theorem isl_pos {w : World} {a : Option Addr} {xs : List Int} (h : IsL w a xs) {k : Nat} (hk : k < xs.length) : ∃ b off, a = some ⟨b, off, none⟩ ∧ b < w.heap.size ∧ ∀ j (hj : j < xs.length), w.cell? ⟨b, off + j, none⟩ = some (.int .i64 xs[j]) := by
  rcases h with h | ⟨b, off, e, hb, hc⟩
  · rw [h] at hk; simp at hk
  · exact ⟨b, off, e, hb, hc⟩
set_option maxHeartbeats 400000 in
theorem ifeat (x : Int) (w : World) : Calls Tryz.prog 108 #[.int .i64 x] w fun e w' => e = .returned (.bool (btw x 0 5)) ∧ w' = w := by
  go_enter Tryz.func108, Tryz.ntmps108
  go_wp2
  all_goals go_ret
  all_goals refine ⟨ret_bool ?_, rfl⟩
  all_goals unfold btw
  all_goals simp
  all_goals first | omega | (rw [Bool.eq_iff_iff]; simp; omega)
set_option maxHeartbeats 400000 in
theorem isays (w : World) (f g v : Int) (ax : Option Addr) (n cx : Nat) (x : List Int) (hn : x.length = n) (hy : IsL w ax x) (h0 : 0 ≤ f) (h1 : f.toNat < x.length) (hl : x.length ≤ 1048576) (hv : x.getD f.toNat 0 = v) :
    Calls Tryz.prog 109 #[.agg #[.int .i64 f, .int .i64 g], .slice ax n cx] w fun e w' => e = .returned (.bool (decide (g < v))) ∧ Below w.heap.size w w' := by
  subst hn
  obtain ⟨b, off, rfl, hb, hc⟩ := isl_pos hy h1
  have hcz := hc _ h1
  have hv' : x[f.toNat] = v := by rw [← hv]; simp [List.getD_eq_getElem?_getD, h1]
  rw [hv'] at hcz
  have h1' : f < (x.length : Int) := by omega
  clear hc hv hv' h1
  go_enter Tryz.func109, Tryz.ntmps109
  go_wp2
  go_quiet (fail)
  go_wp2
  go_ret
  exact ⟨rfl, below_box⟩
end Go.Proofs.YtglllflleabmbaaGreat.Sw7
/-
  The cells of the asked rows, and what a split gains (the program's).
-/
namespace Go.Proofs.YtglllflleabmbaaGreat.Sw7
set_option maxRecDepth 100000
open Go.RowKit
open Go.Proofs.YtglllflleabmbaaGreat.Li (ret_bool ret_int below_none IsL btw)
open Go.Proofs.YtglllflleabmbaaGreat.Tm (IsP pv pv_length)
open Go.Proofs.YtglllflleabmbaaGreat.Se Go.Proofs.YtglllflleabmbaaGreat.Sv
set_option linter.unusedVariables false

end Go.Proofs.YtglllflleabmbaaGreat.Sw7
/-
  slices.Clone of ints, at every list; what the program's Asked makes first.
-/
namespace Go.Proofs.YtglllflleabmbaaGreat.Sw7
open Go.RowKit
open Go.Proofs.YtglllflleabmbaaGreat.Li (ret_bool ret_int below_none IsL btw iv)
open Go.Proofs.YtglllflleabmbaaGreat.Tm (IsP pv pv_length)
open Go.Proofs.YtglllflleabmbaaGreat.Se Go.Proofs.YtglllflleabmbaaGreat.Sv
set_option linter.unusedVariables false

theorem eql_nil0 {P : Program} (w : World) (t e : TypeId) (l c : Nat) (h : P.underlying t = some (.slice e)) : (binOp .eql t (.slice none l c) (.slice none 0 0)).run P w = .ok (.bool true) w := by
  simp only [binOp]
  simp [run_equal_slice_nil w t e none l c h]
set_option maxRecDepth 100000 in
set_option maxHeartbeats 1000000 in
theorem cloneI (w : World) (a : Option Addr) (n c : Nat) (xs : List Int) (hn : xs.length = n) (hx : IsL w a xs) (hl : n ≤ 1048576) :
    Calls Tryz.prog 50 #[.slice a n c] w fun e w' => ∃ v, e = .returned v ∧ OwI w' (fun k => w.heap.size ≤ k ∧ k < w'.heap.size) v xs ∧ Below w.heap.size w w' := by
  obtain ⟨i0, hi, hz0, hz1, hz2⟩ := info_parts Li.info_int
  cases a with
  | none =>
    have h0 : xs = [] := by
      rcases hx with h | ⟨b, off, e, _⟩
      · exact h
      · cases e
    subst h0
    have hn0 : n = 0 := by simpa using hn.symm
    subst hn0
    have hnil : ∀ w0 : World, Sem.run Tryz.prog (binOp .eql 37 (.slice none 0 c) (.slice none 0 0)) w0 = .ok (.bool true) w0 := fun w0 => eql_nil0 w0 _ _ _ _ Tryz.underlying37
    go_enter Tryz.func50, Tryz.ntmps50
    go_wp2
    go_ret
    exact ⟨_, rfl, ⟨none, 0, rfl, .inl rfl⟩, Below.refl _ _⟩
  | some x =>
    have hnil : ∀ w0 : World, Sem.run Tryz.prog (binOp .eql 37 (.slice (some x) n c) (.slice none 0 0)) w0 = .ok (.bool false) w0 := fun w0 => eql_nil w0 _ _ _ _ _ Tryz.underlying37
    have hB0 : Below w.heap.size w (w.alloc (.cells #[] 3)) := (Below.refl _ _).alloc (Nat.le_refl _) _
    by_cases h0 : n = 0
    · subst h0
      obtain rfl : xs = [] := List.length_eq_zero_iff.1 hn
      go_enter Tryz.func50, Tryz.ntmps50
      go_wp2
      go_ret
      exact ⟨_, rfl, ⟨_, _, rfl, .inl rfl⟩, hB0⟩
    · subst hn
      have h0 : 0 < xs.length := by omega
      go_enter Tryz.func50, Tryz.ntmps50
      go_wp2_with (at_builtin; refine wpList_append_lies _ rfl _ _ 37 rfl w.heap.size 3 i0 (.int .i64 0) 1 8 Tryz.underlying37 hi hz0 hz1 hz2 rfl (by decide) (.slice (some ⟨w.heap.size, 0, none⟩) 0 0) 0 [] rfl (Ai.own_empty w _ (Nat.le_refl _)) x xs.length c (iv xs) rfl (by rw [Li.iv_length]; omega) (Ai.news_i (hx.below hB0)) (Li.iv_one _) h0 (by unfold maxLen; omega) (by omega) (by simp) _ rfl ?_)
      intro g cap w1 hown hgrow _ _
      have ho : Li.Own w1 w.heap.size (.slice (some ⟨g, 0, none⟩) xs.length cap) xs := by
        first | exact hown | (rw [Nat.zero_add, List.nil_append] at hown; exact hown)
      have hoc := owi_own ho
      have hB1 : Below w.heap.size w w1 := Ai.below_app hB0 (by simp) hgrow (fun k hk => by simp [Value.ownBlock] at hk; omega)
      clear hown hgrow ho
      go_wp2
      go_ret
      exact ⟨_, rfl, by simpa using hoc, hB1⟩
end Go.Proofs.YtglllflleabmbaaGreat.Sw7
