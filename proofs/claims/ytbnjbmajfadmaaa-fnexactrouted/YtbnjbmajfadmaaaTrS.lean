/-
  Lists of trees as the laws and both texts hold them; contracts of the laws' own helpers.
-/
import Derived.Test.YtbnjbmajfadmaaaTrT
namespace Go.Proofs.Ytbnjbmajfadmaaa.Tm
open Go.RowKit
open Go.Proofs.Ytbnjbmajfadmaaa.Li (ret_bool ret_int below_none)
open Go.Proofs.Ytbnjbmajfadmaaa.Tb (sub sub_yes sub_no)
set_option linter.unusedVariables false

/-- Two cells that read as a tree. -/
def TrIs (w : World) (v0 v1 : Value) (t : Tr.T) : Prop :=
  ∃ a c a' c', v0 = .slice a t.sp.length c ∧ v1 = .slice a' t.lv.length c' ∧ IsP w a t.sp ∧ Li.IsL w a' t.lv
theorem TrIs.below {w w1 : World} {v0 v1 : Value} {t : Tr.T} (h : TrIs w v0 v1 t) (hB : Below w.heap.size w w1) : TrIs w1 v0 v1 t := by
  obtain ⟨a, c, a', c', e0, e1, h0, h1⟩ := h
  exact ⟨a, c, a', c', e0, e1, h0.below hB, h1.below hB⟩
/-- The slice of address a reads as these trees. -/
def IsT (w : World) (a : Option Addr) (ts : List Tr.T) : Prop :=
  ts = [] ∨ ∃ b off, a = some ⟨b, off, none⟩ ∧ b < w.heap.size ∧ ∀ j (hj : j < ts.length), ∃ v0 v1, (w.cell? ⟨b, off + j * 2, none⟩ = some v0 ∧ w.cell? ⟨b, off + j * 2 + 1, none⟩ = some v1) ∧ TrIs w v0 v1 ts[j]
theorem IsT.below {w w1 : World} {a : Option Addr} {ts : List Tr.T} (h : IsT w a ts) (hB : Below w.heap.size w w1) : IsT w1 a ts := by
  rcases h with h | ⟨b, off, rfl, hb, hc⟩
  · exact .inl h
  · refine .inr ⟨b, off, rfl, Nat.lt_of_lt_of_le hb hB.size, fun j hj => ?_⟩
    obtain ⟨v0, v1, ⟨c0, c1⟩, hr⟩ := hc j hj
    exact ⟨v0, v1, ⟨(hB.cell (by exact hb)).trans c0, (hB.cell (by exact hb)).trans c1⟩, hr.below hB⟩
theorem IsT.drewN {w : World} {a : Option Addr} {ts : List Tr.T} (h : IsT w a ts) (n : Nat) : IsT (w.drewN n) a ts := h
def szt (t : Tr.T) : Nat := t.sp.length + t.lv.length
def szT : List Tr.T → Nat
  | [] => 0
  | t :: ts => szt t + szT ts
theorem szT_take (ts : List Tr.T) (k : Nat) (h : k < ts.length) : szT (ts.take (k + 1)) = szT (ts.take k) + szt ts[k] := by
  induction ts generalizing k with
  | nil => simp at h
  | cons s r ih =>
    cases k with
    | zero => simp [szT]
    | succ k =>
      simp only [List.take_succ_cons, szT, List.getElem_cons_succ]
      rw [ih k (by simpa using h)]
      omega
theorem szT_le (ts : List Tr.T) (k : Nat) : szT (ts.take k) ≤ szT ts := by
  induction ts generalizing k with
  | nil => simp
  | cons s r ih =>
    cases k with
    | zero => simp [szT]
    | succ k => simp only [List.take_succ_cons, szT]; have := ih k; omega
theorem szT_at (ts : List Tr.T) (k : Nat) (h : k < ts.length) : szt ts[k] ≤ szT ts := by
  have h1 := szT_take ts k h
  have h2 := szT_le ts (k + 1)
  omega
theorem szT_append (ts us : List Tr.T) : szT (ts ++ us) = szT ts + szT us := by
  induction ts with
  | nil => simp [szT]
  | cons t ts ih => simp only [List.cons_append, szT, ih]; omega
/-- All of a size that Go can have. -/
def FitsT (ts : List Tr.T) : Prop := ts.length ≤ 9223372036854775807 ∧ ∀ j (hj : j < ts.length), ts[j].sp.length ≤ 9223372036854775807 ∧ ts[j].lv.length ≤ 9223372036854775807

/-- As far as k the cells of block g are trees of the call's own, in blocks from B on. -/
def NestT (w : World) (B : Nat) (V0 V1 : Nat → Value) (xs : List Value) (ts : List Tr.T) (k : Nat) : Prop :=
  ∀ i (hi : i < ts.length), i < k → (xs[i * 2]? = some (V0 i) ∧ xs[i * 2 + 1]? = some (V1 i)) ∧ OwnP w B (V0 i) ts[i].sp ∧ Li.Own w B (V1 i) ts[i].lv
def updV (V : Nat → Value) (k : Nat) (u : Value) : Nat → Value := fun i => if i = k then u else V i
theorem updV_at (V : Nat → Value) (k : Nat) (u : Value) : updV V k u k = u := if_pos rfl
theorem updV_off {V : Nat → Value} {k i : Nat} (u : Value) (h : i ≠ k) : updV V k u i = V i := if_neg h
theorem nestT_zero (w : World) (B : Nat) (V0 V1 : Nat → Value) (xs : List Value) (ts : List Tr.T) : NestT w B V0 V1 xs ts 0 := fun _ _ h => by omega
theorem NestT.grown {w w1 : World} {B g k : Nat} {V0 V1 : Nat → Value} {xs : List Value} {ts : List Tr.T} (h : NestT w B V0 V1 xs ts k) (hg : w.grownBy w1 (some g)) (hgB : g < B) : NestT w1 B V0 V1 xs ts k := by
  intro i hi hik
  obtain ⟨hc, o0, o1⟩ := h i hi hik
  exact ⟨hc, ownP_off o0 hg hgB, own_off o1 hg hgB⟩
theorem NestT.below {w w1 : World} {B k : Nat} {V0 V1 : Nat → Value} {xs : List Value} {ts : List Tr.T} (h : NestT w B V0 V1 xs ts k) (hb : Below w.heap.size w w1) : NestT w1 B V0 V1 xs ts k := by
  intro i hi hik
  obtain ⟨hc, o0, o1⟩ := h i hi hik
  exact ⟨hc, o0.below hb, o1.below hb⟩
theorem nestT_step {w : World} {B g k : Nat} {V0 V1 : Nat → Value} {xs : List Value} {ts : List Tr.T} {u0 u1 : Value} (h : NestT w B V0 V1 xs ts k) (hk : k < ts.length) (hxl : xs.length = ts.length * 2) (hg : g < B)
    (o0 : OwnP w B u0 ts[k].sp) (o1 : Li.Own w B u1 ts[k].lv) :
    NestT ((w.setCell ⟨g, k * 2, none⟩ u0).setCell ⟨g, k * 2 + 1, none⟩ u1) B (updV V0 k u0) (updV V1 k u1) ((xs.set (k * 2) u0).set (k * 2 + 1) u1) ts (k + 1) := by
  intro i hi hik
  have hg1 : w.grownBy ((w.setCell ⟨g, k * 2, none⟩ u0).setCell ⟨g, k * 2 + 1, none⟩ u1) (some g) := Li.grown_trans (Li.grown_set _ _ _ _) (Li.grown_set _ _ _ _)
  by_cases e : i = k
  · subst e
    rw [updV_at, updV_at]
    refine ⟨⟨?_, ?_⟩, ownP_off o0 hg1 hg, own_off o1 hg1 hg⟩
    · simp only [List.getElem?_set, List.length_set]; rw [if_neg (by omega), if_pos True.intro, if_pos (by omega)]
    · simp only [List.getElem?_set, List.length_set]; rw [if_pos True.intro, if_pos (by omega)]
  · rw [updV_off _ e, updV_off _ e]
    obtain ⟨⟨c0, c1⟩, p0, p1⟩ := h i hi (by omega)
    refine ⟨⟨?_, ?_⟩, ownP_off p0 hg1 hg, own_off p1 hg1 hg⟩
    · simp only [List.getElem?_set]; rw [if_neg (by omega), if_neg (by omega)]; exact c0
    · simp only [List.getElem?_set]; rw [if_neg (by omega), if_neg (by omega)]; exact c1
theorem nestT_is {w : World} {B g base cap : Nat} {V0 V1 : Nat → Value} {xs : List Value} {ts : List Tr.T} (h : NestT w B V0 V1 xs ts ts.length) (hown : w.ownsRow base 42 2 (.slice (some ⟨g, 0, none⟩) ts.length cap) ts.length xs) : IsT w (some ⟨g, 0, none⟩) ts := by
  have hlt := (World.ownsRow.lt hown g rfl).2
  refine .inr ⟨g, 0, rfl, hlt, fun j hj => ?_⟩
  obtain ⟨⟨c0, c1⟩, o0, o1⟩ := h j hj hj
  obtain ⟨a0, q0, e0, _, i0⟩ := o0.isp
  obtain ⟨a1, q1, e1, i1⟩ := o1.isl
  have hxl := hown.1
  refine ⟨V0 j, V1 j, ⟨?_, ?_⟩, a0, q0, a1, q1, e0, e1, i0, i1⟩
  · rw [Nat.zero_add, World.ownsRow.cellAt hown (j * 2) (by omega), c0]
  · rw [Nat.zero_add, World.ownsRow.cellAt hown (j * 2 + 1) (by omega), c1]
theorem info_tree : (Try.prog.info? 42).map (fun i => (i.zero, i.size, i.bytes)) = some (some (.agg #[.slice none 0 0, .slice none 0 0]), 2, 48) := by kernel_rfl
end Go.Proofs.Ytbnjbmajfadmaaa.Tm
