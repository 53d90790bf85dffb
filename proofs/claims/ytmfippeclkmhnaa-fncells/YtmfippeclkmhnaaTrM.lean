/-
  Trees as the laws and both texts hold them: lists of questions, a tree; contracts of the laws' own helpers (how great, a copy, a comparison, marks and whether they are held).
-/
import Derived.Test.YtmfippeclkmhnaaTre
import Derived.Test.YtmfippeclkmhnaaSiz
import Derived.Deep.RegionWith
namespace Go.Proofs.Ytmfippeclkmhnaa.Tm
open Go.RowKit
open Go.Proofs.Ytmfippeclkmhnaa.Li (ret_bool ret_int below_none)
open Go.Proofs.Ytmfippeclkmhnaa.Tb (sub sub_yes sub_no)

/-- The cells of questions. -/
def pv : List (Int × Int) → List Value
  | [] => []
  | p :: ps => .int .i64 p.1 :: .int .i64 p.2 :: pv ps
theorem pv_length (ps : List (Int × Int)) : (pv ps).length = ps.length * 2 := by
  induction ps with
  | nil => rfl
  | cons p ps ih => simp only [pv, List.length_cons, ih]; omega
theorem pv_get (ps : List (Int × Int)) (j : Nat) (h : j < ps.length) : (pv ps)[j * 2]? = some (.int .i64 ps[j].1) ∧ (pv ps)[j * 2 + 1]? = some (.int .i64 ps[j].2) := by
  induction ps generalizing j with
  | nil => simp at h
  | cons p ps ih =>
    cases j with
    | zero => exact ⟨rfl, rfl⟩
    | succ j =>
      have := ih j (by simpa using h)
      rw [show (j + 1) * 2 = j * 2 + 1 + 1 by omega]
      simpa [pv] using this
theorem pv_set (ps : List (Int × Int)) (j : Nat) (x y : Int) : ((pv ps).set (j * 2) (.int .i64 x)).set (j * 2 + 1) (.int .i64 y) = pv (ps.set j (x, y)) := by
  induction ps generalizing j with
  | nil => simp [pv]
  | cons p ps ih =>
    cases j with
    | zero => simp [pv]
    | succ j =>
      rw [show (j + 1) * 2 = j * 2 + 1 + 1 by omega]
      simp only [pv, List.set_cons_succ, ih]
theorem pv_append (ps qs : List (Int × Int)) : pv ps ++ pv qs = pv (ps ++ qs) := by
  induction ps with
  | nil => rfl
  | cons p ps ih => simp [pv, ih]
theorem pv_zero (n : Nat) : pv (List.replicate n (0, 0)) = (List.replicate n [Value.int .i64 0, Value.int .i64 0]).flatten := by
  induction n with
  | zero => rfl
  | succ n ih => simp [List.replicate_succ, pv, ih]

/-- The slice of address a reads as these questions. -/
def IsP (w : World) (a : Option Addr) (ps : List (Int × Int)) : Prop :=
  ps = [] ∨ ∃ b off, a = some ⟨b, off, none⟩ ∧ b < w.heap.size ∧ ∀ j (hj : j < ps.length), w.cell? ⟨b, off + j * 2, none⟩ = some (.int .i64 ps[j].1) ∧ w.cell? ⟨b, off + j * 2 + 1, none⟩ = some (.int .i64 ps[j].2)
theorem IsP.keptAt {w w1 : World} {a : Option Addr} {ps : List (Int × Int)} (h : IsP w a ps) (hs : w.heap.size ≤ w1.heap.size) (hk : ∀ x, a = some x → x.block < w.heap.size → w1.heap[x.block]? = w.heap[x.block]?) : IsP w1 a ps := by
  rcases h with h | ⟨b, off, rfl, hb, hc⟩
  · exact .inl h
  · refine .inr ⟨b, off, rfl, by omega, fun j hj => ⟨?_, ?_⟩⟩
    · rw [World.cell?_of_block (w := w) (a := ⟨b, off + j * 2, none⟩) (hk ⟨b, off, none⟩ rfl hb)]; exact (hc j hj).1
    · rw [World.cell?_of_block (w := w) (a := ⟨b, off + j * 2 + 1, none⟩) (hk ⟨b, off, none⟩ rfl hb)]; exact (hc j hj).2
theorem IsP.below {w w1 : World} {a : Option Addr} {ps : List (Int × Int)} (h : IsP w a ps) (hb : Below w.heap.size w w1) : IsP w1 a ps :=
  h.keptAt hb.size (fun _ _ hx => hb.block _ hx)
theorem IsP.drewN {w : World} {a : Option Addr} {ps : List (Int × Int)} (h : IsP w a ps) (n : Nat) : IsP (w.drewN n) a ps := h
/-- A slice of questions of the call's own. -/
def OwnP (w : World) (base : Nat) (v : Value) (ps : List (Int × Int)) : Prop := w.ownsRow base 29 2 v ps.length (pv ps)
theorem OwnP.isp {w : World} {base : Nat} {v : Value} {ps : List (Int × Int)} (h : OwnP w base v ps) : ∃ a cap, v = .slice a ps.length cap ∧ ps.length ≤ cap ∧ IsP w a ps := by
  have h' := h
  rcases h.2 with ⟨rfl, h0⟩ | ⟨g, cap, cur, rfl, hb, hh, hc, _⟩
  · obtain rfl := List.length_eq_zero_iff.1 h0
    exact ⟨none, 0, rfl, Nat.le_refl _, .inl rfl⟩
  · refine ⟨_, cap, rfl, hc, .inr ⟨g, 0, rfl, (Array.getElem?_eq_some_iff.1 hh).1, fun j hj => ?_⟩⟩
    have := pv_get ps j hj
    rw [Nat.zero_add]
    exact ⟨by rw [World.ownsRow.cellAt h' (j * 2) (by omega), this.1], by rw [World.ownsRow.cellAt h' (j * 2 + 1) (by omega), this.2]⟩
theorem OwnP.kept {w w1 : World} {base : Nat} {v : Value} {ps : List (Int × Int)} {row : Option Nat} (h : OwnP w base v ps) (hg : w.grownBy w1 row) (hne : v.ownBlock = none ∨ v.ownBlock ≠ row) : OwnP w1 base v ps := World.ownsRow.kept h hg hne
theorem OwnP.below {w w1 : World} {base : Nat} {v : Value} {ps : List (Int × Int)} (h : OwnP w base v ps) (hb : Below w.heap.size w w1) : OwnP w1 base v ps :=
  World.ownsRow.kept (row := none) h ⟨hb.os, hb.tape, hb.output, hb.size, fun k hk _ => hb.block k hk⟩ (by cases hv : v.ownBlock <;> simp)
theorem ownsRow_mono {w : World} {base base' s n : Nat} {t : TypeId} {v : Value} {xs : List Value} (h : w.ownsRow base t s v n xs) (hb : base' ≤ base) : w.ownsRow base' t s v n xs := by
  refine ⟨h.1, ?_⟩
  rcases h.2 with h | ⟨g, cap, cur, e, hb', r⟩
  · exact .inl h
  · exact .inr ⟨g, cap, cur, e, by omega, r⟩
theorem OwnP.mono {w : World} {base base' : Nat} {v : Value} {ps : List (Int × Int)} (h : OwnP w base v ps) (hb : base' ≤ base) : OwnP w base' v ps := ownsRow_mono h hb
theorem OwnP.ge {w : World} {base : Nat} {v : Value} {ps : List (Int × Int)} (h : OwnP w base v ps) : ∀ k, v.ownBlock = some k → base ≤ k ∧ k < w.heap.size := World.ownsRow.lt h
theorem OwnP.cell {w : World} {base g cap n : Nat} {ps : List (Int × Int)} (h : OwnP w base (.slice (some ⟨g, 0, none⟩) n cap) ps) (hn : ps.length = n) (j : Nat) (hj : j < ps.length) : w.cell? ⟨g, j * 2, none⟩ = some (.int .i64 ps[j].1) ∧ w.cell? ⟨g, j * 2 + 1, none⟩ = some (.int .i64 ps[j].2) := by
  subst hn
  have := pv_get ps j hj
  exact ⟨by rw [World.ownsRow.cellAt h (j * 2) (by omega), this.1], by rw [World.ownsRow.cellAt h (j * 2 + 1) (by omega), this.2]⟩
theorem OwnP.frozen {w : World} {base g cap n : Nat} {ps : List (Int × Int)} (h : OwnP w base (.slice (some ⟨g, 0, none⟩) n cap) ps) (hn : ps.length = n) (j : Nat) : w.frozen? ⟨g, j, none⟩ = false := by
  subst hn
  exact World.ownsRow.frozenAt h j
theorem OwnP.set {w : World} {base g cap n : Nat} {ps : List (Int × Int)} (h : OwnP w base (.slice (some ⟨g, 0, none⟩) n cap) ps) (hn : ps.length = n) (j : Nat) (x y : Int) :
    OwnP ((w.setCell ⟨g, j * 2, none⟩ (.int .i64 x)).setCell ⟨g, j * 2 + 1, none⟩ (.int .i64 y)) base (.slice (some ⟨g, 0, none⟩) n cap) (ps.set j (x, y)) := by
  subst hn
  have := (World.ownsRow.stored (World.ownsRow.stored h (j * 2) (.int .i64 x)).1 (j * 2 + 1) (.int .i64 y)).1
  rw [pv_set] at this
  unfold OwnP
  rwa [List.length_set]
theorem ownP_made {w : World} {base n : Nat} {v : Value} (h : w.ownsRow base 29 2 v n (madeCells (Value.agg #[.int .i64 0, .int .i64 0]).cells (n * 2)).toList) : OwnP w base v (List.replicate n (0, 0)) := by
  unfold OwnP
  have e : (madeCells (Value.agg #[.int .i64 0, .int .i64 0]).cells (n * 2)).toList = pv (List.replicate n (0, 0)) := by
    apply List.ext_getElem?
    intro p
    by_cases hp : p < n * 2
    · have hz : (madeCells (Value.agg #[.int .i64 0, .int .i64 0]).cells (n * 2)).toList[p]? = some (.int .i64 0) := by
        have h2 : p % 2 < 2 := Nat.mod_lt _ (by decide)
        simp [madeCells, hp, Value.cells]
        rcases Nat.mod_two_eq_zero_or_one p with e | e <;> simp [e]
      rw [hz]
      have hg := pv_get (List.replicate n (0, 0)) (p / 2) (by simp; omega)
      rcases Nat.mod_two_eq_zero_or_one p with e | e
      · have := hg.1; rw [show p / 2 * 2 = p by omega] at this; simpa using this.symm
      · have := hg.2; rw [show p / 2 * 2 + 1 = p by omega] at this; simpa using this.symm
    · rw [List.getElem?_eq_none (by have := h.1; omega), List.getElem?_eq_none (by rw [pv_length]; simp; omega)]
  rw [e] at h
  simpa using h
theorem info_spl : (Try.prog.info? 29).map (fun i => (i.zero, i.size, i.bytes)) = some (some (.agg #[.int .i64 0, .int .i64 0]), 2, 16) := by kernel_rfl
theorem results_cell {fn : Func} {p : Tmp} {ty : TypeId} (h : fn.results = #[.cell p ty]) (tmps : Array Value) (P : Program) (w : World) :
    (results fn tmps).run P w = ((asAddr (tmps.getD p undef)).run P w).andThen fun a w₁ => (loadVar ty a).run P w₁ := by
  simp only [results, h]
  simp [Sem.run_bind, Result.andThen]
/-- Of two lists of questions the first k are alike. -/
def LikeP {α : Type} (xs ys : List α) (k : Nat) : Prop := ∀ j, j < k → xs[j]? = ys[j]?
theorem likeP_set {α : Type} {xs ys : List α} {k : Nat} (h : LikeP ys xs k) (hk : k < xs.length) (hl : ys.length = xs.length) : LikeP (ys.set k xs[k]) xs (k + 1) := by
  intro j hj
  rw [List.getElem?_set]
  split
  · rename_i e
    subst e
    rw [if_pos (by omega), List.getElem?_eq_getElem hk]
  · exact h j (by omega)
theorem likeP_all {α : Type} {xs ys : List α} (h : LikeP ys xs xs.length) (hl : ys.length = xs.length) : ys = xs := by
  apply List.ext_getElem?
  intro j
  by_cases hj : j < xs.length
  · exact h j hj
  · rw [List.getElem?_eq_none (by omega), List.getElem?_eq_none (by omega)]
theorem likeP_step {α : Type} {xs ys : List α} {k : Nat} (h : LikeP xs ys k) (hx : k < xs.length) (hy : k < ys.length) (e : xs[k] = ys[k]) : LikeP xs ys (k + 1) := by
  intro j hj
  by_cases hjk : j = k
  · subst hjk; rw [List.getElem?_eq_getElem hx, List.getElem?_eq_getElem hy, e]
  · exact h j (by omega)
theorem below_drewN' (w : World) (n : Nat) : Below w.heap.size w (w.drewN n) := ⟨rfl, rfl, rfl, Nat.le_refl _, fun _ _ => rfl⟩

def eqp (xs ys : List (Int × Int)) : Bool := decide (xs = ys)
theorem eqp_self (xs : List (Int × Int)) : eqp xs xs = true := by simp [eqp]
theorem eqp_len {xs ys : List (Int × Int)} (h : ¬ xs.length = ys.length) : eqp xs ys = false := by unfold eqp; simp; intro e; exact h (by rw [e])
theorem eqp_all {xs ys : List (Int × Int)} (h : LikeP xs ys ys.length) (hl : xs.length = ys.length) : eqp xs ys = true := by unfold eqp; simp; exact likeP_all h hl
theorem eqp_no {xs ys : List (Int × Int)} {k : Nat} (hx : k < xs.length) (hy : k < ys.length) (h : ¬ xs[k] = ys[k]) : eqp xs ys = false := by
  unfold eqp; simp; intro e; subst e; exact h rfl
end Go.Proofs.Ytmfippeclkmhnaa.Tm
