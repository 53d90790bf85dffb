/-
  Lists of nodes as the laws and both texts hold them; contracts of the laws' own helpers.
-/
import Derived.Test.YtnhnfdjmekookaaTrT
namespace Go.Proofs.Ytnhnfdjmekookaa.Tm
open Go.RowKit
open Go.Proofs.Ytnhnfdjmekookaa.Li (ret_bool ret_int below_none)
open Go.Proofs.Ytnhnfdjmekookaa.Tb (sub sub_yes sub_no)
open Go.Proofs.Ytnhnfdjmekookaa.Tr (Nd)
set_option linter.unusedVariables false

def I64 (x : Int) : Prop := -9223372036854775808 ≤ x ∧ x ≤ 9223372036854775807
/-- Every number of the node is one of Go's. -/
def NdOk (n : Nd) : Prop := I64 n.f ∧ I64 n.b ∧ I64 n.l ∧ I64 n.r ∧ I64 n.v
/-- The cells of nodes. -/
def nv : List Nd → List Value
  | [] => []
  | p :: ps => .int .i64 p.f :: .int .i64 p.b :: .int .i64 p.l :: .int .i64 p.r :: .int .i64 p.v :: nv ps
theorem nv_length (ps : List Nd) : (nv ps).length = ps.length * 5 := by
  induction ps with
  | nil => rfl
  | cons p ps ih => simp only [nv, List.length_cons, ih]; omega
theorem nv_get (ps : List Nd) (j : Nat) (h : j < ps.length) : (nv ps)[j * 5]? = some (.int .i64 ps[j].f) ∧ (nv ps)[j * 5 + 1]? = some (.int .i64 ps[j].b) ∧ (nv ps)[j * 5 + 2]? = some (.int .i64 ps[j].l) ∧ (nv ps)[j * 5 + 3]? = some (.int .i64 ps[j].r) ∧ (nv ps)[j * 5 + 4]? = some (.int .i64 ps[j].v) := by
  induction ps generalizing j with
  | nil => simp at h
  | cons p ps ih =>
    cases j with
    | zero => exact ⟨rfl, rfl, rfl, rfl, rfl⟩
    | succ j =>
      have := ih j (by simpa using h)
      rw [show (j + 1) * 5 = j * 5 + 1 + 1 + 1 + 1 + 1 by omega]
      simpa [nv] using this
theorem nv_set (ps : List Nd) (j : Nat) (a b c d e : Int) : (((((nv ps).set (j * 5) (.int .i64 a)).set (j * 5 + 1) (.int .i64 b)).set (j * 5 + 2) (.int .i64 c)).set (j * 5 + 3) (.int .i64 d)).set (j * 5 + 4) (.int .i64 e) = nv (ps.set j ⟨a, b, c, d, e⟩) := by
  induction ps generalizing j with
  | nil => simp [nv]
  | cons p ps ih =>
    cases j with
    | zero => simp [nv]
    | succ j =>
      rw [show (j + 1) * 5 = j * 5 + 1 + 1 + 1 + 1 + 1 by omega]
      simp only [nv, List.set_cons_succ, ih]
theorem nv_append (ps qs : List Nd) : nv ps ++ nv qs = nv (ps ++ qs) := by
  induction ps with
  | nil => rfl
  | cons p ps ih => simp [nv, ih]
/-- Five cells from o on read as the node. -/
def At5 (w : World) (b o : Nat) (n : Nd) : Prop :=
  w.cell? ⟨b, o, none⟩ = some (.int .i64 n.f) ∧ w.cell? ⟨b, o + 1, none⟩ = some (.int .i64 n.b) ∧ w.cell? ⟨b, o + 2, none⟩ = some (.int .i64 n.l) ∧ w.cell? ⟨b, o + 3, none⟩ = some (.int .i64 n.r) ∧ w.cell? ⟨b, o + 4, none⟩ = some (.int .i64 n.v)
/-- The slice of address a reads as these nodes. -/
def IsN (w : World) (a : Option Addr) (ps : List Nd) : Prop :=
  ps = [] ∨ ∃ b off, a = some ⟨b, off, none⟩ ∧ b < w.heap.size ∧ ∀ j (hj : j < ps.length), At5 w b (off + j * 5) ps[j]
theorem IsN.keptAt {w w1 : World} {a : Option Addr} {ps : List Nd} (h : IsN w a ps) (hs : w.heap.size ≤ w1.heap.size) (hk : ∀ x, a = some x → x.block < w.heap.size → w1.heap[x.block]? = w.heap[x.block]?) : IsN w1 a ps := by
  rcases h with h | ⟨b, off, rfl, hb, hc⟩
  · exact .inl h
  · refine .inr ⟨b, off, rfl, by omega, fun j hj => ?_⟩
    have hkb := hk ⟨b, off, none⟩ rfl hb
    obtain ⟨c0, c1, c2, c3, c4⟩ := hc j hj
    have f : ∀ o v, w.cell? ⟨b, o, none⟩ = some v → w1.cell? ⟨b, o, none⟩ = some v := fun o v h => by rw [World.cell?_of_block (w := w) (a := ⟨b, o, none⟩) hkb]; exact h
    exact ⟨f _ _ c0, f _ _ c1, f _ _ c2, f _ _ c3, f _ _ c4⟩
theorem IsN.below {w w1 : World} {a : Option Addr} {ps : List Nd} (h : IsN w a ps) (hb : Below w.heap.size w w1) : IsN w1 a ps :=
  h.keptAt hb.size (fun _ _ hx => hb.block _ hx)
theorem IsN.drewN {w : World} {a : Option Addr} {ps : List Nd} (h : IsN w a ps) (n : Nat) : IsN (w.drewN n) a ps := h
/-- A slice of nodes of the call's own. -/
def OwnN (w : World) (base : Nat) (v : Value) (ps : List Nd) : Prop := w.ownsRow base 59 5 v ps.length (nv ps)
theorem OwnN.cells {w : World} {base g cap n : Nat} {ps : List Nd} (h : OwnN w base (.slice (some ⟨g, 0, none⟩) n cap) ps) (hn : ps.length = n) (j : Nat) (hj : j < ps.length) : At5 w g (j * 5) ps[j] := by
  subst hn
  obtain ⟨c0, c1, c2, c3, c4⟩ := nv_get ps j hj
  refine ⟨?_, ?_, ?_, ?_, ?_⟩
  · rw [World.ownsRow.cellAt h (j * 5) (by omega), c0]
  · rw [World.ownsRow.cellAt h (j * 5 + 1) (by omega), c1]
  · rw [World.ownsRow.cellAt h (j * 5 + 2) (by omega), c2]
  · rw [World.ownsRow.cellAt h (j * 5 + 3) (by omega), c3]
  · rw [World.ownsRow.cellAt h (j * 5 + 4) (by omega), c4]
theorem OwnN.isn {w : World} {base : Nat} {v : Value} {ps : List Nd} (h : OwnN w base v ps) : ∃ a cap, v = .slice a ps.length cap ∧ ps.length ≤ cap ∧ IsN w a ps := by
  have h' := h
  rcases h.2 with ⟨rfl, h0⟩ | ⟨g, cap, cur, rfl, hb, hh, hc, _⟩
  · obtain rfl := List.length_eq_zero_iff.1 h0
    exact ⟨none, 0, rfl, Nat.le_refl _, .inl rfl⟩
  · refine ⟨_, cap, rfl, hc, .inr ⟨g, 0, rfl, (Array.getElem?_eq_some_iff.1 hh).1, fun j hj => ?_⟩⟩
    rw [Nat.zero_add]
    exact OwnN.cells h' rfl j hj
theorem OwnN.kept {w w1 : World} {base : Nat} {v : Value} {ps : List Nd} {row : Option Nat} (h : OwnN w base v ps) (hg : w.grownBy w1 row) (hne : v.ownBlock = none ∨ v.ownBlock ≠ row) : OwnN w1 base v ps := World.ownsRow.kept h hg hne
theorem OwnN.kept2 {w w1 : World} {base : Nat} {v : Value} {xs : List Nd} {r r' : Option Nat} (h : OwnN w base v xs) (hg : Fr2 w w1 r r') (hne : v.ownBlock = none ∨ v.ownBlock ≠ r) (hne' : v.ownBlock = none ∨ v.ownBlock ≠ r') : OwnN w1 base v xs := Tm.kept2 h hg hne hne'
theorem OwnN.below {w w1 : World} {base : Nat} {v : Value} {ps : List Nd} (h : OwnN w base v ps) (hb : Below w.heap.size w w1) : OwnN w1 base v ps :=
  World.ownsRow.kept (row := none) h ⟨hb.os, hb.tape, hb.output, hb.size, fun k hk _ => hb.block k hk⟩ (by cases hv : v.ownBlock <;> simp)
theorem OwnN.mono {w : World} {base base' : Nat} {v : Value} {ps : List Nd} (h : OwnN w base v ps) (hb : base' ≤ base) : OwnN w base' v ps := ownsRow_mono h hb
theorem OwnN.ge {w : World} {base : Nat} {v : Value} {ps : List Nd} (h : OwnN w base v ps) : ∀ k, v.ownBlock = some k → base ≤ k ∧ k < w.heap.size := World.ownsRow.lt h
theorem OwnN.frozen {w : World} {base g cap n : Nat} {ps : List Nd} (h : OwnN w base (.slice (some ⟨g, 0, none⟩) n cap) ps) (hn : ps.length = n) (j : Nat) : w.frozen? ⟨g, j, none⟩ = false := by
  subst hn
  exact World.ownsRow.frozenAt h j
/-- Five cells written. -/
def set5 (w : World) (g o : Nat) (a b c d e : Int) : World :=
  ((((w.setCell ⟨g, o, none⟩ (.int .i64 a)).setCell ⟨g, o + 1, none⟩ (.int .i64 b)).setCell ⟨g, o + 2, none⟩ (.int .i64 c)).setCell ⟨g, o + 3, none⟩ (.int .i64 d)).setCell ⟨g, o + 4, none⟩ (.int .i64 e)
theorem OwnN.set {w : World} {base g cap n : Nat} {ps : List Nd} (h : OwnN w base (.slice (some ⟨g, 0, none⟩) n cap) ps) (hn : ps.length = n) (j : Nat) (a b c d e : Int) :
    OwnN (set5 w g (j * 5) a b c d e) base (.slice (some ⟨g, 0, none⟩) n cap) (ps.set j ⟨a, b, c, d, e⟩) := by
  subst hn
  have := (World.ownsRow.stored (World.ownsRow.stored (World.ownsRow.stored (World.ownsRow.stored (World.ownsRow.stored h (j * 5) (.int .i64 a)).1 (j * 5 + 1) (.int .i64 b)).1 (j * 5 + 2) (.int .i64 c)).1 (j * 5 + 3) (.int .i64 d)).1 (j * 5 + 4) (.int .i64 e)).1
  rw [nv_set] at this
  unfold OwnN
  rwa [List.length_set]
theorem set5_size (w : World) (g o : Nat) (a b c d e : Int) : (set5 w g o a b c d e).heap.size = w.heap.size := by simp [set5, World.setCell]
theorem set5_grown (w : World) (g o : Nat) (a b c d e : Int) : w.grownBy (set5 w g o a b c d e) (some g) :=
  Li.grown_trans (Li.grown_trans (Li.grown_trans (Li.grown_trans (Li.grown_set _ _ _ _) (Li.grown_set _ _ _ _)) (Li.grown_set _ _ _ _)) (Li.grown_set _ _ _ _)) (Li.grown_set _ _ _ _)
theorem set5_below {B g o : Nat} {w w1 : World} {a b c d e : Int} (h : Below B w w1) (hg : B ≤ g) : Below B w (set5 w1 g o a b c d e) :=
  ((((h.setCell (p := ⟨g, o, none⟩) hg _).setCell (p := ⟨g, o + 1, none⟩) hg _).setCell (p := ⟨g, o + 2, none⟩) hg _).setCell (p := ⟨g, o + 3, none⟩) hg _).setCell (p := ⟨g, o + 4, none⟩) hg _
theorem ownN_made {w : World} {base n : Nat} {v : Value} (h : w.ownsRow base 59 5 v n (madeCells (Value.agg #[.int .i64 0, .int .i64 0, .int .i64 0, .int .i64 0, .int .i64 0]).cells (n * 5)).toList) : OwnN w base v (List.replicate n ⟨0, 0, 0, 0, 0⟩) := by
  unfold OwnN
  have e : (madeCells (Value.agg #[.int .i64 0, .int .i64 0, .int .i64 0, .int .i64 0, .int .i64 0]).cells (n * 5)).toList = nv (List.replicate n ⟨0, 0, 0, 0, 0⟩) := by
    apply List.ext_getElem?
    intro p
    by_cases hp : p < n * 5
    · have h5 : p % 5 = 0 ∨ p % 5 = 1 ∨ p % 5 = 2 ∨ p % 5 = 3 ∨ p % 5 = 4 := by omega
      have hz : (madeCells (Value.agg #[.int .i64 0, .int .i64 0, .int .i64 0, .int .i64 0, .int .i64 0]).cells (n * 5)).toList[p]? = some (.int .i64 0) := by
        simp [madeCells, hp, Value.cells]
        rcases h5 with e | e | e | e | e <;> simp [e]
      rw [hz]
      obtain ⟨c0, c1, c2, c3, c4⟩ := nv_get (List.replicate n ⟨0, 0, 0, 0, 0⟩) (p / 5) (by simp; omega)
      rcases h5 with e | e | e | e | e
      · rw [show p / 5 * 5 = p by omega] at c0; simpa using c0.symm
      · rw [show p / 5 * 5 + 1 = p by omega] at c1; simpa using c1.symm
      · rw [show p / 5 * 5 + 2 = p by omega] at c2; simpa using c2.symm
      · rw [show p / 5 * 5 + 3 = p by omega] at c3; simpa using c3.symm
      · rw [show p / 5 * 5 + 4 = p by omega] at c4; simpa using c4.symm
    · rw [List.getElem?_eq_none (by have := h.1; omega), List.getElem?_eq_none (by rw [nv_length]; simp; omega)]
  rw [e] at h
  simpa using h
theorem info_nd : (Try.prog.info? 59).map (fun i => (i.zero, i.size, i.bytes)) = some (some (.agg #[.int .i64 0, .int .i64 0, .int .i64 0, .int .i64 0, .int .i64 0]), 5, 40) := by kernel_rfl

def nmarks (k : Int) (n : Nat) : List Nd := (List.range n).map fun (j : Nat) => ⟨k + 5 * (j : Int), k + 5 * (j : Int) + 1, k + 5 * (j : Int) + 1 + 1, k + 5 * (j : Int) + 1 + 1 + 1, k + 5 * (j : Int) + 1 + 1 + 1 + 1⟩
theorem nmarks_length (k : Int) (n : Nat) : (nmarks k n).length = n := by simp [nmarks]
theorem nmarks_get (k : Int) (n j : Nat) (h : j < (nmarks k n).length) : (nmarks k n)[j] = ⟨k + 5 * (j : Int), k + 5 * (j : Int) + 1, k + 5 * (j : Int) + 1 + 1, k + 5 * (j : Int) + 1 + 1 + 1, k + 5 * (j : Int) + 1 + 1 + 1 + 1⟩ := by simp [nmarks]
end Go.Proofs.Ytnhnfdjmekookaa.Tm
